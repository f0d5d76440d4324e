import Derived.Test.YtkidabedcgngcaaGreatDoorWkAA
import Derived.Test.YtkidabedcgngcaaGreatDoorWkAD
import Derived.Test.YtkidabedcgngcaaGreatDoorWkAE
import Derived.Test.YtkidabedcgngcaaGreatDoorWkAC
import Derived.Test.YtkidabedcgngcaaGreatDoorWkAB
namespace Go.Proofs.YtkidabedcgngcaaGreatDoor
open Go.ChangeShapes Go.WideShapes Go.ChangeAt Go.RowKit Go.Deep
set_option linter.unusedVariables false
set_option linter.unusedSimpArgs false
set_option maxRecDepth 100000
def MaF (N:Nat) (F:Nat→Nat→Bool) (w:World) (r:Ending) (w':World):Prop:=∃g cp ρ γ f,r=.returned (slV g N cp)∧Hid (MatO w' w.heap.size g cp N N ρ γ f∧∀i j,i≤j→j<N→f i j=F i j)∧Below w.heap.size w w'
set_option maxHeartbeats 2000000 in
theorem l4Empty_core (n:Nat) (hn:n≤1000) (w:World):Calls Tryz.prog 177 #[.int .i64 (n:Int)] w (MaF (n+1) (fun i j=>i==j) w):=by
 go_enter Tryz.func177,Tryz.ntmps177
 go_wp2_with fail
 refine(l4None_core n hn w).mono ?_
 rintro r w1 ⟨g,cp,ρ,γ,rfl,HM,hb1⟩
 have hcp:=HM.out.out.caps
 go_wp2_with fail
 go_loopw[4] (fun iv wr=>∃(k:Nat) (f:Nat→Nat→Bool),k≤n+1∧iv=.int .i64 k∧Hid (MatO wr w.heap.size g cp (n+1) (n+1) ρ γ f∧(∀i j,i≤j→j<n+1→f i j=(i==j && decide (i<k)))∧Below w.heap.size w wr)) (fun iv _=>n+1-(intOf iv).toNat)
 case atStart=>exact⟨0,_,Nat.zero_le _,rfl,HM.out,fun i j _ _=>by simp,hb1⟩
 case round=>
  obtain⟨k,f,hk,rfl,HJ⟩:=hrel
  by_cases hlt:k≤n
  ·have zk:(k:Int)≤(n:Int):=by omega
   have hk1:k<n+1:=by omega
   have c0:wr.cell? ⟨g,k,none⟩=some (slV (ρ k) (n+1) (γ k)):=HJ.1.cell hk1
   have c1:wr.cell? ⟨ρ k,k,none⟩=some (.bool (f k k)):=(HJ.1.row k hk1).cell hk1
   have z1:wr.frozen? ⟨ρ k,k,none⟩=false:=World.ownsRow.frozenAt (HJ.1.row k hk1) _
   have hrc:=(HJ.1.row k hk1).caps
   have HJ2:Hid (MatO (wr.setCell ⟨ρ k,k,none⟩ (.bool true)) w.heap.size g cp (n+1) (n+1) ρ γ (upd2 f k k true)∧(∀i j,i≤j→j<n+1→upd2 f k k true i j=(i==j && decide (i<k+1)))∧Below w.heap.size w (wr.setCell ⟨ρ k,k,none⟩ (.bool true))):=by
    refine⟨HJ.1.set hk1 hk1 true,fun i j hij hj=>?_,below_set HJ.2.2 (HJ.1.row k hk1).lt.1 _ _⟩
    unfold upd2
    by_cases e:i=k∧j=k
    ·rw[if_pos e];simp[e.1,e.2]
    ·rw[if_neg e,HJ.2.1 i j hij hj]
     rw[Bool.eq_iff_iff];simp only[Bool.or_eq_true,Bool.and_eq_true,decide_eq_true_eq,beq_iff_eq];omega
   have zr:(k:Int)<(((n+1:Nat)):Int):=by omega
   go_wp2_with fail
   go_roundw
   case rel=>exact⟨k+1,upd2 f k k true,by omega,by go_num,HJ2.out⟩
   case measure=>simp[intOf];omega
  ·obtain rfl:k=n+1:=by omega
   have zk:¬(((n+1:Nat):Int))≤(n:Int):=by omega
   go_wp2_with fail
   go_ret
   refine⟨g,cp,ρ,γ,f,rfl,⟨HJ.1,fun i j hij hj=>?_⟩,HJ.2.2⟩
   rw[HJ.2.1 i j hij hj]
   have:i<n+1:=by omega
   simp[this]
def orF (fa fb:Nat→Nat→Bool) (k j:Nat):Nat→Nat→Bool:=fun x y=>(fa x y || fb x y) && (decide (x<k) || (x==k && decide (y<j)))
set_option maxHeartbeats 8000000 in
theorem l4Or_core (n ga ca gb cb:Nat) (ρa γa ρb γb:Nat→Nat) (fa fb:Nat→Nat→Bool) (w:World) (hn:n≤1000) (ha:MatR w ga (n+1) ρa γa fa) (hb:MatR w gb (n+1) ρb γb fb) (hca:n+1≤ca) (hcb:n+1≤cb):Calls Tryz.prog 170 #[slV ga (n+1) ca,slV gb (n+1) cb] w (MaF (n+1) (fun i j=>fa i j || fb i j) w):=by
 have HR:Hid (MatR w ga (n+1) ρa γa fa∧MatR w gb (n+1) ρb γb fb):=⟨ha,hb⟩
 clear ha hb
 go_enter Tryz.func170,Tryz.ntmps170
 go_wp2_with fail
 refine(l4None_core n hn w).mono ?_
 rintro r w1 ⟨g,cp,ρ,γ,rfl,HM,hb1⟩
 have hcp:=HM.out.out.caps
 go_wp2_with fail
 go_loopw[6] (fun iv wr=>∃(k:Nat) (f:Nat→Nat→Bool),k≤n+1∧iv=.int .i64 k∧Hid (MatO wr w.heap.size g cp (n+1) (n+1) ρ γ f∧(∀i j,i≤j→j<n+1→f i j=orF fa fb k 0 i j)∧Below w.heap.size w wr)) (fun iv _=>n+1-(intOf iv).toNat)
 case atStart=>exact⟨0,_,Nat.zero_le _,rfl,HM.out,fun i j _ _=>by simp[orF],hb1⟩
 case round=>
  obtain⟨k,f0,hk,rfl,HJ0⟩:=hrel
  obtain⟨Wr,hWr⟩:=qE (wr:World)
  subst hWr
  by_cases hlt:k<n+1
  ·have zk:(k:Int)<((n+1:Nat):Int):=by omega
   go_wp2_with fail
   go_loopw[7] (fun jv wr=>∃(j:Nat) (f:Nat→Nat→Bool),k≤j∧j≤n+1∧jv=.int .i64 j∧Hid (MatO wr w.heap.size g cp (n+1) (n+1) ρ γ f∧(∀x y,x≤y→y<n+1→f x y=orF fa fb k j x y)∧Below w.heap.size w wr)) (fun jv _=>n+1-(intOf jv).toNat)
   case atStart=>exact⟨k,f0,Nat.le_refl _,by omega,rfl,HJ0.1,fun x y hxy hy=>by
    rw[HJ0.2.1 x y hxy hy]
    unfold orF
    congr 1
    rw[Bool.eq_iff_iff];simp only[Bool.or_eq_true,Bool.and_eq_true,decide_eq_true_eq,beq_iff_eq];omega,HJ0.2.2⟩
   case round=>
    obtain⟨j,f,hkj,hj,rfl,HJ⟩:=hrel
    by_cases hlj:j<n+1
    ·have zj:(j:Int)<((n+1:Nat):Int):=by omega
     have hra:=HR.1.below HJ.2.2 (Nat.le_refl _)
     have hrb:=HR.2.below HJ.2.2 (Nat.le_refl _)
     have c0:wr.cell? ⟨g,k,none⟩=some (slV (ρ k) (n+1) (γ k)):=HJ.1.cell hlt
     have c1:wr.cell? ⟨ρ k,j,none⟩=some (.bool (f k j)):=(HJ.1.row k hlt).cell hlj
     have z1:wr.frozen? ⟨ρ k,j,none⟩=false:=World.ownsRow.frozenAt (HJ.1.row k hlt) _
     have hrc:=(HJ.1.row k hlt).caps
     have a0:=hra.out k hlt
     have a1:=hra.row k j hlt hlj
     have b0:=hrb.out k hlt
     have b1:=hrb.row k j hlt hlj
     have hc1:=HR.1.cap k hlt
     have hc2:=HR.2.cap k hlt
     have HJ2:Hid (∀v:Bool,v=(fa k j || fb k j)→Hid (MatO (wr.setCell ⟨ρ k,j,none⟩ (.bool v)).drew w.heap.size g cp (n+1) (n+1) ρ γ (upd2 f k j v)∧(∀x y,x≤y→y<n+1→upd2 f k j v x y=orF fa fb k (j+1) x y)∧Below w.heap.size w (wr.setCell ⟨ρ k,j,none⟩ (.bool v)).drew)):=fun v hv=>by
      refine⟨(HJ.1.set hlt hlj v).below ((Below.refl _ _).drew),fun x y hxy hy=>?_,(below_set HJ.2.2 (HJ.1.row k hlt).lt.1 _ _).drew⟩
      unfold upd2
      by_cases e:x=k∧y=j
      ·rw[if_pos e,hv];simp[orF,e.1,e.2]
      ·rw[if_neg e,HJ.2.1 x y hxy hy]
       unfold orF
       congr 1
       rw[Bool.eq_iff_iff];simp only[Bool.or_eq_true,Bool.and_eq_true,decide_eq_true_eq,beq_iff_eq];omega
     obtain⟨fav,hfa⟩:∃fav,fa k j=fav:=⟨_,rfl⟩
     obtain⟨fbv,hfb⟩:∃fbv,fb k j=fbv:=⟨_,rfl⟩
     have HV:Hid (fa k j=fav∧fb k j=fbv):=⟨hfa,hfb⟩
     rw[hfa]at a1
     rw[hfb]at b1
     clear hra hrb hfa hfb
     go_upto_region 8 with fail
     cases fav
     case false=>
      have hSd:(fun w':World=>w'.cell? ⟨g,k,none⟩=some (slV (ρ k) (n+1) (γ k))∧w'.cell? ⟨ga,k,none⟩=some (slV (ρa k) (n+1) (γa k))∧w'.cell? ⟨ρa k,j,none⟩=some (.bool false)∧w'.cell? ⟨gb,k,none⟩=some (slV (ρb k) (n+1) (γb k))∧w'.cell? ⟨ρb k,j,none⟩=some (.bool fbv)) wr.drew:=⟨c0,a0,a1,b0,b1⟩
      refine wp_region_T 22 (fun w':World=>w'.cell? ⟨g,k,none⟩=some (slV (ρ k) (n+1) (γ k))∧w'.cell? ⟨ga,k,none⟩=some (slV (ρa k) (n+1) (γa k))∧w'.cell? ⟨ρa k,j,none⟩=some (.bool false)∧w'.cell? ⟨gb,k,none⟩=some (slV (ρb k) (n+1) (γb k))∧w'.cell? ⟨ρb k,j,none⟩=some (.bool fbv)) (by kernel_rfl) ?_
      refine qU 0 ?vf0 rfl ?yf0 hSd ?_
      case yf0=>exact zzR5
      try simp only[qA,List.getElem_toArray,List.getElem_cons_zero,List.getElem_cons_succ]
      refine qU 1 ?vf1 rfl ?yf1 hSd ?_
      case yf1=>exact zzR5
      try simp only[qA,List.getElem_toArray,List.getElem_cons_zero,List.getElem_cons_succ]
      refine qU 2 ?vf2 rfl ?yf2 hSd ?_
      case yf2=>exact zzR5
      try simp only[qA,List.getElem_toArray,List.getElem_cons_zero,List.getElem_cons_succ]
      refine qU 3 ?vf3 rfl ?yf3 hSd ?_
      case yf3=>exact zzR5
      try simp only[qA,List.getElem_toArray,List.getElem_cons_zero,List.getElem_cons_succ]
      refine qU 4 ?vf4 rfl ?yf4 hSd ?_
      case yf4=>exact zzR5
      try simp only[qA,List.getElem_toArray,List.getElem_cons_zero,List.getElem_cons_succ]
      refine qU 5 ?vf5 rfl ?yf5 hSd ?_
      case yf5=>exact zzR5
      try simp only[qA,List.getElem_toArray,List.getElem_cons_zero,List.getElem_cons_succ]
      refine qU 6 ?vf6 rfl ?yf6 hSd ?_
      case yf6=>exact zzR5
      try simp only[qA,List.getElem_toArray,List.getElem_cons_zero,List.getElem_cons_succ]
      refine qU 7 ?vf7 rfl ?yf7 hSd ?_
      case yf7=>exact zzR5
      try simp only[qA,List.getElem_toArray,List.getElem_cons_zero,List.getElem_cons_succ]
      refine qU 8 ?vf8 rfl ?yf8 hSd ?_
      case yf8=>exact zzR5
      try simp only[qA,List.getElem_toArray,List.getElem_cons_zero,List.getElem_cons_succ]
      refine qU 9 ?vf9 rfl ?yf9 hSd ?_
      case yf9=>exact zzR5
      try simp only[qA,List.getElem_toArray,List.getElem_cons_zero,List.getElem_cons_succ]
      refine qU 10 ?vf10 rfl ?yf10 hSd ?_
      case yf10=>exact zzR5
      try simp only[qA,List.getElem_toArray,List.getElem_cons_zero,List.getElem_cons_succ]
      refine qU 11 ?vf11 rfl ?yf11 hSd ?_
      case yf11=>exact zzR5
      try simp only[qA,List.getElem_toArray,List.getElem_cons_zero,List.getElem_cons_succ]
      refine qU 12 ?vf12 rfl ?yf12 hSd ?_
      case yf12=>exact zzR5
      try simp only[qA,List.getElem_toArray,List.getElem_cons_zero,List.getElem_cons_succ]
      refine qU 13 ?vf13 rfl ?yf13 hSd ?_
      case yf13=>exact zzR5
      try simp only[qA,List.getElem_toArray,List.getElem_cons_zero,List.getElem_cons_succ]
      refine qU 14 ?vf14 rfl ?yf14 hSd ?_
      case yf14=>exact zzR5
      try simp only[qA,List.getElem_toArray,List.getElem_cons_zero,List.getElem_cons_succ]
      refine qU 15 ?vf15 rfl ?yf15 hSd ?_
      case yf15=>exact zzR5
      try simp only[qA,List.getElem_toArray,List.getElem_cons_zero,List.getElem_cons_succ]
      refine qU 16 ?vf16 rfl ?yf16 hSd ?_
      case yf16=>exact zzR5
      try simp only[qA,List.getElem_toArray,List.getElem_cons_zero,List.getElem_cons_succ]
      refine qU 17 ?vf17 rfl ?yf17 hSd ?_
      case yf17=>exact zzR5
      try simp only[qA,List.getElem_toArray,List.getElem_cons_zero,List.getElem_cons_succ]
      refine qU 18 ?vf18 rfl ?yf18 hSd ?_
      case yf18=>exact zzR5
      try simp only[qA,List.getElem_toArray,List.getElem_cons_zero,List.getElem_cons_succ]
      refine qU 19 ?vf19 rfl ?yf19 hSd ?_
      case yf19=>exact zzR5
      try simp only[qA,List.getElem_toArray,List.getElem_cons_zero,List.getElem_cons_succ]
      refine qU 20 ?vf20 rfl ?yf20 hSd ?_
      case yf20=>exact zzR5
      try simp only[qA,List.getElem_toArray,List.getElem_cons_zero,List.getElem_cons_succ]
      refine qO 21 rfl fun K hK=>?_
      go_simp
      refine hK.out _ _ (.inr hSd) ?_
      clear hK
      try simp only[qA,List.getElem_toArray,List.getElem_cons_zero,List.getElem_cons_succ]
      refine qO 22 rfl fun K hK=>?_
      go_simp
      refine hK.out _ _ (.inl rfl) ?_
      clear hK
      try simp only[qA,List.getElem_toArray,List.getElem_cons_zero,List.getElem_cons_succ]
      refine qD ?_
      have HJ3:=HJ2.out fbv (by rw[HV.1,HV.2];rfl)
      go_wp2_with fail
      go_roundw
      case rel=>exact⟨j+1,by omega,by omega,by go_num,upd2 f k j fbv,HJ3⟩
      case measure=>simp[intOf];omega
     case true=>
      have hSd:(fun w':World=>w'.cell? ⟨g,k,none⟩=some (slV (ρ k) (n+1) (γ k))∧w'.cell? ⟨ga,k,none⟩=some (slV (ρa k) (n+1) (γa k))∧w'.cell? ⟨ρa k,j,none⟩=some (.bool true)∧w'.cell? ⟨gb,k,none⟩=some (slV (ρb k) (n+1) (γb k))∧w'.cell? ⟨ρb k,j,none⟩=some (.bool fbv)) wr.drew:=⟨c0,a0,a1,b0,b1⟩
      refine wp_region_T 22 (fun w':World=>w'.cell? ⟨g,k,none⟩=some (slV (ρ k) (n+1) (γ k))∧w'.cell? ⟨ga,k,none⟩=some (slV (ρa k) (n+1) (γa k))∧w'.cell? ⟨ρa k,j,none⟩=some (.bool true)∧w'.cell? ⟨gb,k,none⟩=some (slV (ρb k) (n+1) (γb k))∧w'.cell? ⟨ρb k,j,none⟩=some (.bool fbv)) (by kernel_rfl) ?_
      refine qU 0 ?vt0 rfl ?yt0 hSd ?_
      case yt0=>exact zzR5
      try simp only[qA,List.getElem_toArray,List.getElem_cons_zero,List.getElem_cons_succ]
      refine qU 1 ?vt1 rfl ?yt1 hSd ?_
      case yt1=>exact zzR5
      try simp only[qA,List.getElem_toArray,List.getElem_cons_zero,List.getElem_cons_succ]
      refine qU 2 ?vt2 rfl ?yt2 hSd ?_
      case yt2=>exact zzR5
      try simp only[qA,List.getElem_toArray,List.getElem_cons_zero,List.getElem_cons_succ]
      refine qU 3 ?vt3 rfl ?yt3 hSd ?_
      case yt3=>exact zzR5
      try simp only[qA,List.getElem_toArray,List.getElem_cons_zero,List.getElem_cons_succ]
      refine qU 4 ?vt4 rfl ?yt4 hSd ?_
      case yt4=>exact zzR5
      try simp only[qA,List.getElem_toArray,List.getElem_cons_zero,List.getElem_cons_succ]
      refine qU 5 ?vt5 rfl ?yt5 hSd ?_
      case yt5=>exact zzR5
      try simp only[qA,List.getElem_toArray,List.getElem_cons_zero,List.getElem_cons_succ]
      refine qU 6 ?vt6 rfl ?yt6 hSd ?_
      case yt6=>exact zzR5
      try simp only[qA,List.getElem_toArray,List.getElem_cons_zero,List.getElem_cons_succ]
      refine qU 7 ?vt7 rfl ?yt7 hSd ?_
      case yt7=>exact zzR5
      try simp only[qA,List.getElem_toArray,List.getElem_cons_zero,List.getElem_cons_succ]
      refine qU 8 ?vt8 rfl ?yt8 hSd ?_
      case yt8=>exact zzR5
      try simp only[qA,List.getElem_toArray,List.getElem_cons_zero,List.getElem_cons_succ]
      refine qU 9 ?vt9 rfl ?yt9 hSd ?_
      case yt9=>exact zzR5
      try simp only[qA,List.getElem_toArray,List.getElem_cons_zero,List.getElem_cons_succ]
      refine qU 10 ?vt10 rfl ?yt10 hSd ?_
      case yt10=>exact zzR5
      try simp only[qA,List.getElem_toArray,List.getElem_cons_zero,List.getElem_cons_succ]
      refine qU 11 ?vt11 rfl ?yt11 hSd ?_
      case yt11=>exact zzR5
      try simp only[qA,List.getElem_toArray,List.getElem_cons_zero,List.getElem_cons_succ]
      refine qU 12 ?vt12 rfl ?yt12 hSd ?_
      case yt12=>exact zzR5
      try simp only[qA,List.getElem_toArray,List.getElem_cons_zero,List.getElem_cons_succ]
      refine anyT_take (i:=13) (v:=undef) rfl (by kernel_rfl) (by kernel_rfl) (by kernel_rfl) (by kernel_rfl) (by decide) (fun _ _ _ h=>h) (Or.inr ⟨by rfl,rfl⟩) hSd ?_
      try simp only[qA,List.getElem_toArray,List.getElem_cons_zero,List.getElem_cons_succ]
      refine anyT_take (i:=14) (v:=undef) rfl (by kernel_rfl) (by kernel_rfl) (by kernel_rfl) (by kernel_rfl) (by decide) (fun _ _ _ h=>h) (Or.inr ⟨by rfl,rfl⟩) hSd ?_
      try simp only[qA,List.getElem_toArray,List.getElem_cons_zero,List.getElem_cons_succ]
      refine anyT_take (i:=15) (v:=undef) rfl (by kernel_rfl) (by kernel_rfl) (by kernel_rfl) (by kernel_rfl) (by decide) (fun _ _ _ h=>h) (Or.inr ⟨by rfl,rfl⟩) hSd ?_
      try simp only[qA,List.getElem_toArray,List.getElem_cons_zero,List.getElem_cons_succ]
      refine anyT_take (i:=16) (v:=undef) rfl (by kernel_rfl) (by kernel_rfl) (by kernel_rfl) (by kernel_rfl) (by decide) (fun _ _ _ h=>h) (Or.inr ⟨by rfl,rfl⟩) hSd ?_
      try simp only[qA,List.getElem_toArray,List.getElem_cons_zero,List.getElem_cons_succ]
      refine anyT_take (i:=17) (v:=undef) rfl (by kernel_rfl) (by kernel_rfl) (by kernel_rfl) (by kernel_rfl) (by decide) (fun _ _ _ h=>h) (Or.inr ⟨by rfl,rfl⟩) hSd ?_
      try simp only[qA,List.getElem_toArray,List.getElem_cons_zero,List.getElem_cons_succ]
      refine anyT_take (i:=18) (v:=undef) rfl (by kernel_rfl) (by kernel_rfl) (by kernel_rfl) (by kernel_rfl) (by decide) (fun _ _ _ h=>h) (Or.inr ⟨by rfl,rfl⟩) hSd ?_
      try simp only[qA,List.getElem_toArray,List.getElem_cons_zero,List.getElem_cons_succ]
      refine anyT_take (i:=19) (v:=undef) rfl (by kernel_rfl) (by kernel_rfl) (by kernel_rfl) (by kernel_rfl) (by decide) (fun _ _ _ h=>h) (Or.inr ⟨by rfl,rfl⟩) hSd ?_
      try simp only[qA,List.getElem_toArray,List.getElem_cons_zero,List.getElem_cons_succ]
      refine qU 20 ?vt20 rfl ?yt20 hSd ?_
      case yt20=>exact zzR5
      try simp only[qA,List.getElem_toArray,List.getElem_cons_zero,List.getElem_cons_succ]
      refine qO 21 rfl fun K hK=>?_
      go_simp
      refine hK.out _ _ (.inr hSd) ?_
      clear hK
      try simp only[qA,List.getElem_toArray,List.getElem_cons_zero,List.getElem_cons_succ]
      refine qO 22 rfl fun K hK=>?_
      go_simp
      refine hK.out _ _ (.inl rfl) ?_
      clear hK
      try simp only[qA,List.getElem_toArray,List.getElem_cons_zero,List.getElem_cons_succ]
      refine qD ?_
      have HJ3:=HJ2.out true (by rw[HV.1,HV.2];rfl)
      go_wp2_with fail
      go_roundw
      case rel=>exact⟨j+1,by omega,by omega,by go_num,upd2 f k j true,HJ3⟩
      case measure=>simp[intOf];omega
    ·obtain rfl:j=n+1:=by omega
     have zj:¬((n+1:Nat):Int)<((n+1:Nat):Int):=by omega
     have HJ2:Hid (MatO wr w.heap.size g cp (n+1) (n+1) ρ γ f∧(∀x y,x≤y→y<n+1→f x y=orF fa fb (k+1) 0 x y)∧Below w.heap.size w wr):=by
      refine⟨HJ.1,fun x y hxy hy=>?_,HJ.2.2⟩
      rw[HJ.2.1 x y hxy hy]
      unfold orF
      congr 1
      rw[Bool.eq_iff_iff];simp only[Bool.or_eq_true,Bool.and_eq_true,decide_eq_true_eq,beq_iff_eq];omega
     go_wp2_with fail
     go_roundw
     case rel=>exact⟨k+1,f,by omega,by go_num,HJ2.out⟩
     case measure=>simp[intOf];omega
  ·obtain rfl:k=n+1:=by omega
   have zk:¬((n+1:Nat):Int)<((n+1:Nat):Int):=by omega
   go_wp2_with fail
   go_ret
   refine⟨g,cp,ρ,γ,f0,rfl,⟨HJ0.1,fun i j hij hj=>?_⟩,HJ0.2.2⟩
   rw[HJ0.2.1 i j hij hj]
   have:i<n+1:=by omega
   simp[orF,this]
def thF (fa fb:Nat→Nat→Bool) (i j K:Nat):Bool:=(List.range K).any (fun k=>decide (i≤k) && decide (k≤j) && fa i k && fb k j)
theorem thF_succ (fa fb:Nat→Nat→Bool) (i j k:Nat):thF fa fb i j (k+1)=(thF fa fb i j k || (decide (i≤k) && decide (k≤j) && fa i k && fb k j)):=by
 simp[thF,List.range_succ,List.any_append]
theorem thF_skip {fa fb:Nat→Nat→Bool} {i j k:Nat} (h:¬i≤k∨¬k≤j∨fa i k=false):thF fa fb i j (k+1)=thF fa fb i j k:=by
 rw[thF_succ]
 rcases h with h|h|h<;>simp[h]
theorem thF_zero {fa fb:Nat→Nat→Bool} {i j:Nat}:∀(k:Nat),k≤i→thF fa fb i j k=false
 |0,_=>rfl
 |k+1,h=>by rw[thF_skip (.inl (by omega)),thF_zero k (by omega)]
theorem thF_iff {fa fb:Nat→Nat→Bool} {i j K:Nat}:thF fa fb i j K=true↔∃k,k<K∧i≤k∧k≤j∧fa i k=true∧fb k j=true:=by
 simp only[thF,List.any_eq_true,List.mem_range,Bool.and_eq_true,decide_eq_true_eq]
 constructor
 ·rintro⟨k,h0,⟨⟨h1,h2⟩,h3⟩,h4⟩;exact⟨k,h0,h1,h2,h3,h4⟩
 ·rintro⟨k,h0,h1,h2,h3,h4⟩;exact⟨k,h0,⟨⟨h1,h2⟩,h3⟩,h4⟩
def stF (fa fb:Nat→Nat→Bool) (N i k j x y:Nat):Bool:=if x<i then thF fa fb x y N else if x=i then thF fa fb i y (if y<j then k+1 else k)else false
set_option maxHeartbeats 16000000 in
theorem l4Then_core (n ga ca gb cb:Nat) (ρa γa ρb γb:Nat→Nat) (fa fb:Nat→Nat→Bool) (w:World) (hn:n≤1000) (ha:MatR w ga (n+1) ρa γa fa) (hb:MatR w gb (n+1) ρb γb fb) (hca:n+1≤ca) (hcb:n+1≤cb):Calls Tryz.prog 180 #[slV ga (n+1) ca,slV gb (n+1) cb] w (MaF (n+1) (fun i j=>thF fa fb i j (n+1)) w):=by
 have HR:Hid (MatR w ga (n+1) ρa γa fa∧MatR w gb (n+1) ρb γb fb):=⟨ha,hb⟩
 clear ha hb
 go_enter Tryz.func180,Tryz.ntmps180
 go_wp2_with fail
 refine(l4None_core n hn w).mono ?_
 rintro r w1 ⟨g,cp,ρ,γ,rfl,HM,hb1⟩
 have hcp:=HM.out.out.caps
 go_wp2_with fail
 go_loopw[6] (fun iv wr=>∃(i:Nat) (f:Nat→Nat→Bool),i≤n+1∧iv=.int .i64 i∧Hid (MatO wr w.heap.size g cp (n+1) (n+1) ρ γ f∧(∀x y,x≤y→y<n+1→f x y=stF fa fb (n+1) i 0 0 x y)∧Below w.heap.size w wr)) (fun iv _=>n+1-(intOf iv).toNat)
 case atStart=>exact⟨0,_,Nat.zero_le _,rfl,HM.out,fun x y _ _=>by
  unfold stF
  rw[if_neg (by omega)]
  split
  ·rw[if_neg (by omega)];rfl
  ·rfl,hb1⟩
 case round=>
  obtain⟨i,f0,hi,rfl,HJ0⟩:=hrel
  obtain⟨Wr,hWr⟩:=qE (wr:World)
  subst hWr
  by_cases hli:i<n+1
  ·have zi:(i:Int)<((n+1:Nat):Int):=by omega
   go_wp2_with fail
   go_loopw[7] (fun kv wr=>∃(k:Nat) (f:Nat→Nat→Bool),i≤k∧k≤n+1∧kv=.int .i64 k∧Hid (MatO wr w.heap.size g cp (n+1) (n+1) ρ γ f∧(∀x y,x≤y→y<n+1→f x y=stF fa fb (n+1) i k 0 x y)∧Below w.heap.size w wr)) (fun kv _=>n+1-(intOf kv).toNat)
   case atStart=>exact⟨i,f0,Nat.le_refl _,by omega,rfl,HJ0.1,fun x y hxy hy=>by
    rw[HJ0.2.1 x y hxy hy]
    unfold stF
    split
    ·rfl
    ·split
     ·rw[if_neg (by omega),if_neg (by omega),thF_zero 0 (by omega),thF_zero i (Nat.le_refl _)]
     ·rfl,HJ0.2.2⟩
   case round=>
    obtain⟨k,f1,hik,hk,rfl,HJ1⟩:=hrel
    obtain⟨Ws,hWs⟩:=qE (wr:World)
    subst hWs
    by_cases hlk:k<n+1
    ·have zk:(k:Int)<((n+1:Nat):Int):=by omega
     have hra:=HR.1.below HJ1.2.2 (Nat.le_refl _)
     have a0:=hra.out i hli
     have a1:=hra.row i k hli hlk
     have hc1:=HR.1.cap i hli
     obtain⟨fav,hfa⟩:∃fav,fa i k=fav:=⟨_,rfl⟩
     rw[hfa]at a1
     have HFa:Hid (fa i k=fav):=hfa
     clear hra hfa
     cases fav
     case false=>
      have HJ2:Hid (MatO Ws w.heap.size g cp (n+1) (n+1) ρ γ f1∧(∀x y,x≤y→y<n+1→f1 x y=stF fa fb (n+1) i (k+1) 0 x y)∧Below w.heap.size w Ws):=by
       refine⟨HJ1.1,fun x y hxy hy=>?_,HJ1.2.2⟩
       rw[HJ1.2.1 x y hxy hy]
       unfold stF
       split
       ·rfl
       ·split
        ·rw[if_neg (by omega),if_neg (by omega),thF_skip (.inr (.inr HFa.out))]
        ·rfl
      go_wp2_with fail
      go_roundw
      case rel=>first|exact⟨k+1,by omega,by omega,by go_num,f1,HJ2.out⟩|exact⟨k+1,by omega,by omega,by omega,by go_num,f1,HJ2.out⟩|exact⟨k+1,f1,by omega,by omega,by go_num,HJ2.out⟩
      case measure=>simp[intOf];omega
     case true=>
     go_wp2_with fail
     clear a0 a1 hc1
     go_loopw[8] (fun jv wr=>∃(j:Nat) (f:Nat→Nat→Bool),k≤j∧j≤n+1∧jv=.int .i64 j∧Hid (MatO wr w.heap.size g cp (n+1) (n+1) ρ γ f∧(∀x y,x≤y→y<n+1→f x y=stF fa fb (n+1) i k j x y)∧Below w.heap.size w wr)) (fun jv _=>n+1-(intOf jv).toNat)
     case atStart=>exact⟨k,f1,Nat.le_refl _,by omega,rfl,HJ1.1,fun x y hxy hy=>by
      rw[HJ1.2.1 x y hxy hy]
      unfold stF
      split
      ·rfl
      ·split
       ·rw[if_neg (by omega)]
        split
        ·rw[thF_skip (.inr (.inl (by omega)))]
        ·rfl
       ·rfl,HJ1.2.2⟩
     case round=>
      obtain⟨j,f,hkj,hj,rfl,HJ⟩:=hrel
      by_cases hlj:j<n+1
      ·have zj:(j:Int)<((n+1:Nat):Int):=by omega
       have hrb:=HR.2.below HJ.2.2 (Nat.le_refl _)
       have c0:wr.cell? ⟨g,i,none⟩=some (slV (ρ i) (n+1) (γ i)):=HJ.1.cell hli
       have c1:wr.cell? ⟨ρ i,j,none⟩=some (.bool (f i j)):=(HJ.1.row i hli).cell hlj
       have z1:wr.frozen? ⟨ρ i,j,none⟩=false:=World.ownsRow.frozenAt (HJ.1.row i hli) _
       have hrc:=(HJ.1.row i hli).caps
       have b0:=hrb.out k hlk
       have b1:=hrb.row k j hlk hlj
       have hc2:=HR.2.cap k hlk
       have HJ2:Hid (∀v:Bool,v=(f i j || fb k j)→Hid (MatO (wr.setCell ⟨ρ i,j,none⟩ (.bool v)).drew w.heap.size g cp (n+1) (n+1) ρ γ (upd2 f i j v)∧(∀x y,x≤y→y<n+1→upd2 f i j v x y=stF fa fb (n+1) i k (j+1) x y)∧Below w.heap.size w (wr.setCell ⟨ρ i,j,none⟩ (.bool v)).drew)):=fun v hv=>by
        refine⟨(HJ.1.set hli hlj v).below ((Below.refl _ _).drew),fun x y hxy hy=>?_,(below_set HJ.2.2 (HJ.1.row i hli).lt.1 _ _).drew⟩
        unfold upd2
        by_cases e:x=i∧y=j
        ·rw[if_pos e,hv,HJ.2.1 i j (by omega) hlj,e.1,e.2]
         unfold stF
         rw[if_neg (by omega),if_pos rfl,if_neg (by omega),if_neg (by omega),if_pos rfl,if_pos (by omega),thF_succ,HFa.out]
         have h1:i≤k:=hik
         simp[h1,hkj]
        ·rw[if_neg e,HJ.2.1 x y hxy hy]
         unfold stF
         split
         ·rfl
         ·split
          ·have h1:y≠j:=fun q=>e ⟨by assumption,q⟩
           by_cases h2:y<j
           ·rw[if_pos h2,if_pos (by omega)]
           ·rw[if_neg h2,if_neg (by omega)]
          ·rfl
       obtain⟨ov,hov⟩:∃ov,f i j=ov:=⟨_,rfl⟩
       obtain⟨fbv,hfb⟩:∃fbv,fb k j=fbv:=⟨_,rfl⟩
       have HV:Hid (f i j=ov∧fb k j=fbv):=⟨hov,hfb⟩
       rw[hov]at c1
       rw[hfb]at b1
       clear hrb hov hfb
       go_upto_region 12 with fail
       cases ov
       case false=>
        have hSd:(fun w':World=>w'.cell? ⟨g,i,none⟩=some (slV (ρ i) (n+1) (γ i))∧w'.cell? ⟨ρ i,j,none⟩=some (.bool false)∧w'.cell? ⟨gb,k,none⟩=some (slV (ρb k) (n+1) (γb k))∧w'.cell? ⟨ρb k,j,none⟩=some (.bool fbv)) wr.drew:=⟨c0,c1,b0,b1⟩
        refine wp_region_T 22 (fun w':World=>w'.cell? ⟨g,i,none⟩=some (slV (ρ i) (n+1) (γ i))∧w'.cell? ⟨ρ i,j,none⟩=some (.bool false)∧w'.cell? ⟨gb,k,none⟩=some (slV (ρb k) (n+1) (γb k))∧w'.cell? ⟨ρb k,j,none⟩=some (.bool fbv)) (by kernel_rfl) ?_
        refine qU 0 ?vf0 rfl ?yf0 hSd ?_
        case yf0=>exact zzR0
        try simp only[qA,List.getElem_toArray,List.getElem_cons_zero,List.getElem_cons_succ]
        refine qU 1 ?vf1 rfl ?yf1 hSd ?_
        case yf1=>exact zzR0
        try simp only[qA,List.getElem_toArray,List.getElem_cons_zero,List.getElem_cons_succ]
        refine qU 2 ?vf2 rfl ?yf2 hSd ?_
        case yf2=>exact zzR0
        try simp only[qA,List.getElem_toArray,List.getElem_cons_zero,List.getElem_cons_succ]
        refine qU 3 ?vf3 rfl ?yf3 hSd ?_
        case yf3=>exact zzR0
        try simp only[qA,List.getElem_toArray,List.getElem_cons_zero,List.getElem_cons_succ]
        refine qU 4 ?vf4 rfl ?yf4 hSd ?_
        case yf4=>exact zzR0
        try simp only[qA,List.getElem_toArray,List.getElem_cons_zero,List.getElem_cons_succ]
        refine qU 5 ?vf5 rfl ?yf5 hSd ?_
        case yf5=>exact zzR0
        try simp only[qA,List.getElem_toArray,List.getElem_cons_zero,List.getElem_cons_succ]
        refine qU 6 ?vf6 rfl ?yf6 hSd ?_
        case yf6=>exact zzR0
        try simp only[qA,List.getElem_toArray,List.getElem_cons_zero,List.getElem_cons_succ]
        refine qU 7 ?vf7 rfl ?yf7 hSd ?_
        case yf7=>exact zzR0
        try simp only[qA,List.getElem_toArray,List.getElem_cons_zero,List.getElem_cons_succ]
        refine qU 8 ?vf8 rfl ?yf8 hSd ?_
        case yf8=>exact zzR0
        try simp only[qA,List.getElem_toArray,List.getElem_cons_zero,List.getElem_cons_succ]
        refine qU 9 ?vf9 rfl ?yf9 hSd ?_
        case yf9=>exact zzR0
        try simp only[qA,List.getElem_toArray,List.getElem_cons_zero,List.getElem_cons_succ]
        refine qU 10 ?vf10 rfl ?yf10 hSd ?_
        case yf10=>exact zzR0
        try simp only[qA,List.getElem_toArray,List.getElem_cons_zero,List.getElem_cons_succ]
        refine qU 11 ?vf11 rfl ?yf11 hSd ?_
        case yf11=>exact zzR0
        try simp only[qA,List.getElem_toArray,List.getElem_cons_zero,List.getElem_cons_succ]
        refine qU 12 ?vf12 rfl ?yf12 hSd ?_
        case yf12=>exact zzR0
        try simp only[qA,List.getElem_toArray,List.getElem_cons_zero,List.getElem_cons_succ]
        refine qU 13 ?vf13 rfl ?yf13 hSd ?_
        case yf13=>exact zzR0
        try simp only[qA,List.getElem_toArray,List.getElem_cons_zero,List.getElem_cons_succ]
        refine qU 14 ?vf14 rfl ?yf14 hSd ?_
        case yf14=>exact zzR0
        try simp only[qA,List.getElem_toArray,List.getElem_cons_zero,List.getElem_cons_succ]
        refine qU 15 ?vf15 rfl ?yf15 hSd ?_
        case yf15=>exact zzR0
        try simp only[qA,List.getElem_toArray,List.getElem_cons_zero,List.getElem_cons_succ]
        refine qU 16 ?vf16 rfl ?yf16 hSd ?_
        case yf16=>exact zzR0
        try simp only[qA,List.getElem_toArray,List.getElem_cons_zero,List.getElem_cons_succ]
        refine qU 17 ?vf17 rfl ?yf17 hSd ?_
        case yf17=>exact zzR0
        try simp only[qA,List.getElem_toArray,List.getElem_cons_zero,List.getElem_cons_succ]
        refine qU 18 ?vf18 rfl ?yf18 hSd ?_
        case yf18=>exact zzR0
        try simp only[qA,List.getElem_toArray,List.getElem_cons_zero,List.getElem_cons_succ]
        refine qU 19 ?vf19 rfl ?yf19 hSd ?_
        case yf19=>exact zzR0
        try simp only[qA,List.getElem_toArray,List.getElem_cons_zero,List.getElem_cons_succ]
        refine qU 20 ?vf20 rfl ?yf20 hSd ?_
        case yf20=>exact zzR0
        try simp only[qA,List.getElem_toArray,List.getElem_cons_zero,List.getElem_cons_succ]
        refine qO 21 rfl fun K hK=>?_
        go_simp
        refine hK.out _ _ (.inr hSd) ?_
        clear hK
        try simp only[qA,List.getElem_toArray,List.getElem_cons_zero,List.getElem_cons_succ]
        refine qO 22 rfl fun K hK=>?_
        go_simp
        refine hK.out _ _ (.inl rfl) ?_
        clear hK
        try simp only[qA,List.getElem_toArray,List.getElem_cons_zero,List.getElem_cons_succ]
        refine qD ?_
        have HJ3:=HJ2.out fbv (by rw[HV.1,HV.2];rfl)
        go_wp2_with fail
        go_roundw
        case rel=>exact⟨j+1,by omega,by omega,by go_num,upd2 f i j fbv,HJ3⟩
        case measure=>simp[intOf];omega
       case true=>
        have hSd:(fun w':World=>w'.cell? ⟨g,i,none⟩=some (slV (ρ i) (n+1) (γ i))∧w'.cell? ⟨ρ i,j,none⟩=some (.bool true)∧w'.cell? ⟨gb,k,none⟩=some (slV (ρb k) (n+1) (γb k))∧w'.cell? ⟨ρb k,j,none⟩=some (.bool fbv)) wr.drew:=⟨c0,c1,b0,b1⟩
        refine wp_region_T 22 (fun w':World=>w'.cell? ⟨g,i,none⟩=some (slV (ρ i) (n+1) (γ i))∧w'.cell? ⟨ρ i,j,none⟩=some (.bool true)∧w'.cell? ⟨gb,k,none⟩=some (slV (ρb k) (n+1) (γb k))∧w'.cell? ⟨ρb k,j,none⟩=some (.bool fbv)) (by kernel_rfl) ?_
        refine qU 0 ?vt0 rfl ?yt0 hSd ?_
        case yt0=>exact zzR0
        try simp only[qA,List.getElem_toArray,List.getElem_cons_zero,List.getElem_cons_succ]
        refine qU 1 ?vt1 rfl ?yt1 hSd ?_
        case yt1=>exact zzR0
        try simp only[qA,List.getElem_toArray,List.getElem_cons_zero,List.getElem_cons_succ]
        refine qU 2 ?vt2 rfl ?yt2 hSd ?_
        case yt2=>exact zzR0
        try simp only[qA,List.getElem_toArray,List.getElem_cons_zero,List.getElem_cons_succ]
        refine qU 3 ?vt3 rfl ?yt3 hSd ?_
        case yt3=>exact zzR0
        try simp only[qA,List.getElem_toArray,List.getElem_cons_zero,List.getElem_cons_succ]
        refine qU 4 ?vt4 rfl ?yt4 hSd ?_
        case yt4=>exact zzR0
        try simp only[qA,List.getElem_toArray,List.getElem_cons_zero,List.getElem_cons_succ]
        refine qU 5 ?vt5 rfl ?yt5 hSd ?_
        case yt5=>exact zzR0
        try simp only[qA,List.getElem_toArray,List.getElem_cons_zero,List.getElem_cons_succ]
        refine qU 6 ?vt6 rfl ?yt6 hSd ?_
        case yt6=>exact zzR0
        try simp only[qA,List.getElem_toArray,List.getElem_cons_zero,List.getElem_cons_succ]
        refine qU 7 ?vt7 rfl ?yt7 hSd ?_
        case yt7=>exact zzR0
        try simp only[qA,List.getElem_toArray,List.getElem_cons_zero,List.getElem_cons_succ]
        refine qU 8 ?vt8 rfl ?yt8 hSd ?_
        case yt8=>exact zzR0
        try simp only[qA,List.getElem_toArray,List.getElem_cons_zero,List.getElem_cons_succ]
        refine qU 9 ?vt9 rfl ?yt9 hSd ?_
        case yt9=>exact zzR0
        try simp only[qA,List.getElem_toArray,List.getElem_cons_zero,List.getElem_cons_succ]
        refine qU 10 ?vt10 rfl ?yt10 hSd ?_
        case yt10=>exact zzR0
        try simp only[qA,List.getElem_toArray,List.getElem_cons_zero,List.getElem_cons_succ]
        refine qU 11 ?vt11 rfl ?yt11 hSd ?_
        case yt11=>exact zzR0
        try simp only[qA,List.getElem_toArray,List.getElem_cons_zero,List.getElem_cons_succ]
        refine qU 12 ?vt12 rfl ?yt12 hSd ?_
        case yt12=>exact zzR0
        try simp only[qA,List.getElem_toArray,List.getElem_cons_zero,List.getElem_cons_succ]
        refine anyT_take (i:=13) (v:=undef) rfl (by kernel_rfl) (by kernel_rfl) (by kernel_rfl) (by kernel_rfl) (by decide) (fun _ _ _ h=>h) (Or.inr ⟨by rfl,rfl⟩) hSd ?_
        try simp only[qA,List.getElem_toArray,List.getElem_cons_zero,List.getElem_cons_succ]
        refine anyT_take (i:=14) (v:=undef) rfl (by kernel_rfl) (by kernel_rfl) (by kernel_rfl) (by kernel_rfl) (by decide) (fun _ _ _ h=>h) (Or.inr ⟨by rfl,rfl⟩) hSd ?_
        try simp only[qA,List.getElem_toArray,List.getElem_cons_zero,List.getElem_cons_succ]
        refine anyT_take (i:=15) (v:=undef) rfl (by kernel_rfl) (by kernel_rfl) (by kernel_rfl) (by kernel_rfl) (by decide) (fun _ _ _ h=>h) (Or.inr ⟨by rfl,rfl⟩) hSd ?_
        try simp only[qA,List.getElem_toArray,List.getElem_cons_zero,List.getElem_cons_succ]
        refine anyT_take (i:=16) (v:=undef) rfl (by kernel_rfl) (by kernel_rfl) (by kernel_rfl) (by kernel_rfl) (by decide) (fun _ _ _ h=>h) (Or.inr ⟨by rfl,rfl⟩) hSd ?_
        try simp only[qA,List.getElem_toArray,List.getElem_cons_zero,List.getElem_cons_succ]
        refine anyT_take (i:=17) (v:=undef) rfl (by kernel_rfl) (by kernel_rfl) (by kernel_rfl) (by kernel_rfl) (by decide) (fun _ _ _ h=>h) (Or.inr ⟨by rfl,rfl⟩) hSd ?_
        try simp only[qA,List.getElem_toArray,List.getElem_cons_zero,List.getElem_cons_succ]
        refine anyT_take (i:=18) (v:=undef) rfl (by kernel_rfl) (by kernel_rfl) (by kernel_rfl) (by kernel_rfl) (by decide) (fun _ _ _ h=>h) (Or.inr ⟨by rfl,rfl⟩) hSd ?_
        try simp only[qA,List.getElem_toArray,List.getElem_cons_zero,List.getElem_cons_succ]
        refine anyT_take (i:=19) (v:=undef) rfl (by kernel_rfl) (by kernel_rfl) (by kernel_rfl) (by kernel_rfl) (by decide) (fun _ _ _ h=>h) (Or.inr ⟨by rfl,rfl⟩) hSd ?_
        try simp only[qA,List.getElem_toArray,List.getElem_cons_zero,List.getElem_cons_succ]
        refine qU 20 ?vt20 rfl ?yt20 hSd ?_
        case yt20=>exact zzR0
        try simp only[qA,List.getElem_toArray,List.getElem_cons_zero,List.getElem_cons_succ]
        refine qO 21 rfl fun K hK=>?_
        go_simp
        refine hK.out _ _ (.inr hSd) ?_
        clear hK
        try simp only[qA,List.getElem_toArray,List.getElem_cons_zero,List.getElem_cons_succ]
        refine qO 22 rfl fun K hK=>?_
        go_simp
        refine hK.out _ _ (.inl rfl) ?_
        clear hK
        try simp only[qA,List.getElem_toArray,List.getElem_cons_zero,List.getElem_cons_succ]
        refine qD ?_
        have HJ3:=HJ2.out true (by rw[HV.1,HV.2];rfl)
        go_wp2_with fail
        go_roundw
        case rel=>exact⟨j+1,by omega,by omega,by go_num,upd2 f i j true,HJ3⟩
        case measure=>simp[intOf];omega
      ·obtain rfl:j=n+1:=by omega
       have zj:¬((n+1:Nat):Int)<((n+1:Nat):Int):=by omega
       have HJ2:Hid (MatO wr w.heap.size g cp (n+1) (n+1) ρ γ f∧(∀x y,x≤y→y<n+1→f x y=stF fa fb (n+1) i (k+1) 0 x y)∧Below w.heap.size w wr):=by
        refine⟨HJ.1,fun x y hxy hy=>?_,HJ.2.2⟩
        rw[HJ.2.1 x y hxy hy]
        unfold stF
        split
        ·rfl
        ·split
         ·first|rw[if_pos hy,if_neg (by omega)]|rw[if_neg (by omega)]
         ·rfl
       go_wp2_with fail
       go_roundw
       case rel=>first|exact⟨k+1,by omega,by omega,by go_num,f,HJ2.out⟩|exact⟨k+1,by omega,by omega,by omega,by go_num,f,HJ2.out⟩|exact⟨k+1,f,by omega,by omega,by go_num,HJ2.out⟩
       case measure=>simp[intOf];omega
    ·obtain rfl:k=n+1:=by omega
     have zk:¬((n+1:Nat):Int)<((n+1:Nat):Int):=by omega
     have HJ2:Hid (MatO Ws w.heap.size g cp (n+1) (n+1) ρ γ f1∧(∀x y,x≤y→y<n+1→f1 x y=stF fa fb (n+1) (i+1) 0 0 x y)∧Below w.heap.size w Ws):=by
      refine⟨HJ1.1,fun x y hxy hy=>?_,HJ1.2.2⟩
      rw[HJ1.2.1 x y hxy hy]
      unfold stF
      by_cases h1:x<i
      ·rw[if_pos h1,if_pos (by omega)]
      ·by_cases h2:x=i
       ·rw[if_neg h1,if_pos h2,if_neg (by omega),if_pos (by omega),h2]
       ·rw[if_neg h1,if_neg h2,if_neg (by omega)]
        split
        ·rw[if_neg (by omega),thF_zero 0 (by omega)]
        ·rfl
     go_wp2_with fail
     go_roundw
     case rel=>first|exact⟨i+1,f1,by omega,by go_num,HJ2.out⟩|exact⟨i+1,by omega,by go_num,f1,HJ2.out⟩
     case measure=>simp[intOf];omega
  ·obtain rfl:i=n+1:=by omega
   have zi:¬((n+1:Nat):Int)<((n+1:Nat):Int):=by omega
   go_wp2_with fail
   go_ret
   refine⟨g,cp,ρ,γ,f0,rfl,⟨HJ0.1,fun x y hxy hy=>?_⟩,HJ0.2.2⟩
   rw[HJ0.2.1 x y hxy hy]
   unfold stF
   rw[if_pos (by omega)]
def plK (fa:Nat→Nat→Bool):Nat→Nat→Nat→Bool
 |0=>fa
 |K+1=>fun i j=>plK fa K i j || (decide (i≤K) && decide (K≤j) && plK fa K i K && plK fa K K j)
def MaG (N:Nat) (F:Nat→Nat→Bool) (w:World) (r:Ending) (w':World):Prop:=∃g cp ρ γ f,r=.returned (slV g N cp)∧N≤cp∧Hid (MatR w' g N ρ γ f∧∀i j,i≤j→j<N→f i j=F i j)∧Below w.heap.size w w'
theorem MaF.g {N:Nat} {F:Nat→Nat→Bool} {w w':World} {r:Ending} (h:MaF N F w r w'):MaG N F w r w':=by
 obtain⟨g,cp,ρ,γ,f,h1,h2,h3⟩:=h
 exact⟨g,cp,ρ,γ,f,h1,h2.out.1.out.caps.1,⟨h2.out.1.read,h2.out.2⟩,h3⟩
def viaF (fo:Nat→Nat→Bool) (k:Nat):Nat→Nat→Bool:=fun x y=>decide (x≤k) && decide (k≤y) && fo x k && fo k y
set_option maxHeartbeats 40000000 in
theorem l4Plus_core (n ga ca:Nat) (ρa γa:Nat→Nat) (fa:Nat→Nat→Bool) (w:World) (hn:n≤1000) (ha:MatR w ga (n+1) ρa γa fa) (hca:n+1≤ca):Calls Tryz.prog 179 #[slV ga (n+1) ca] w (MaG (n+1) (plK fa (n+1)) w):=by
 have HR:Hid (MatR w ga (n+1) ρa γa fa):=ha
 clear ha
 go_enter Tryz.func179,Tryz.ntmps179
 go_wp2_with fail
 go_loopw[3,4] (fun ov kv wr=>∃(k go co:Nat) (ρo γo:Nat→Nat) (fo:Nat→Nat→Bool),k≤n+1∧kv=.int .i64 k∧ov=slV go (n+1) co∧n+1≤co∧Hid (MatR wr go (n+1) ρo γo fo∧(∀x y,x≤y→y<n+1→fo x y=plK fa k x y)∧Below w.heap.size w wr)) (fun _ kv _=>n+1-(intOf kv).toNat)
 case atStart=>exact⟨0,ga,ca,ρa,γa,fa,Nat.zero_le _,rfl,rfl,hca,HR.out,fun _ _ _ _=>rfl,Below.refl _ _⟩
 case round=>
  obtain⟨k,go,co,ρo,γo,fo,hk,rfl,rfl,hco,HO⟩:=hrel
  obtain⟨Wk,hWk⟩:=qE (wr:World)
  subst hWk
  by_cases hlk:k<n+1
  ·have zk:(k:Int)<((n+1:Nat):Int):=by omega
   go_wp2_with fail
   refine(l4None_core n hn Wk).mono ?_
   rintro r w1 ⟨g,cp,ρ,γ,rfl,HM,hb1⟩
   have hcp:=HM.out.out.caps
   go_wp2_with fail
   go_loopw[6] (fun iv wr=>∃(i:Nat) (f:Nat→Nat→Bool),i≤n+1∧iv=.int .i64 i∧Hid (MatO wr Wk.heap.size g cp (n+1) (n+1) ρ γ f∧(∀x y,x≤y→y<n+1→f x y=orF fo (viaF fo k) i 0 x y)∧Below Wk.heap.size Wk wr)) (fun iv _=>n+1-(intOf iv).toNat)
   case atStart=>exact⟨0,_,Nat.zero_le _,rfl,HM.out,fun x y _ _=>by simp[orF],hb1⟩
   case round=>
    obtain⟨i,f0,hi,rfl,HJ0⟩:=hrel
    obtain⟨Wr,hWr⟩:=qE (wr:World)
    subst hWr
    by_cases hlt:i<n+1
    ·have zi:(i:Int)<((n+1:Nat):Int):=by omega
     go_wp2_with fail
     go_loopw[7] (fun jv wr=>∃(j:Nat) (f:Nat→Nat→Bool),i≤j∧j≤n+1∧jv=.int .i64 j∧Hid (MatO wr Wk.heap.size g cp (n+1) (n+1) ρ γ f∧(∀x y,x≤y→y<n+1→f x y=orF fo (viaF fo k) i j x y)∧Below Wk.heap.size Wk wr)) (fun jv _=>n+1-(intOf jv).toNat)
     case atStart=>exact⟨i,f0,Nat.le_refl _,by omega,rfl,HJ0.1,fun x y hxy hy=>by
      rw[HJ0.2.1 x y hxy hy]
      unfold orF
      congr 1
      rw[Bool.eq_iff_iff];simp only[Bool.or_eq_true,Bool.and_eq_true,decide_eq_true_eq,beq_iff_eq];omega,HJ0.2.2⟩
     case round=>
      obtain⟨j,f,hij,hj,rfl,HJ⟩:=hrel
      by_cases hlj:j<n+1
      ·have zj:(j:Int)<((n+1:Nat):Int):=by omega
       have hra:=HO.1.below HJ.2.2 (Nat.le_refl _)
       have c0:wr.cell? ⟨g,i,none⟩=some (slV (ρ i) (n+1) (γ i)):=HJ.1.cell hlt
       have c1:wr.cell? ⟨ρ i,j,none⟩=some (.bool (f i j)):=(HJ.1.row i hlt).cell hlj
       have z1:wr.frozen? ⟨ρ i,j,none⟩=false:=World.ownsRow.frozenAt (HJ.1.row i hlt) _
       have hrc:=(HJ.1.row i hlt).caps
       have a0:=hra.out i hlt
       have a1:=hra.row i j hlt hlj
       have a2:=hra.row i k hlt hlk
       have a3:=hra.out k hlk
       have a4:=hra.row k j hlk hlj
       have hc1:=HO.1.cap i hlt
       have hc2:=HO.1.cap k hlk
       have HJ2:Hid (∀v:Bool,v=(fo i j || viaF fo k i j)→Hid (MatO (wr.setCell ⟨ρ i,j,none⟩ (.bool v)).drew Wk.heap.size g cp (n+1) (n+1) ρ γ (upd2 f i j v)∧(∀x y,x≤y→y<n+1→upd2 f i j v x y=orF fo (viaF fo k) i (j+1) x y)∧Below Wk.heap.size Wk (wr.setCell ⟨ρ i,j,none⟩ (.bool v)).drew)):=fun v hv=>by
        refine⟨(HJ.1.set hlt hlj v).below ((Below.refl _ _).drew),fun x y hxy hy=>?_,(below_set HJ.2.2 (HJ.1.row i hlt).lt.1 _ _).drew⟩
        unfold upd2
        by_cases e:x=i∧y=j
        ·rw[if_pos e,hv];simp[orF,e.1,e.2]
        ·rw[if_neg e,HJ.2.1 x y hxy hy]
         unfold orF
         congr 1
         rw[Bool.eq_iff_iff];simp only[Bool.or_eq_true,Bool.and_eq_true,decide_eq_true_eq,beq_iff_eq];omega
       obtain⟨ovv,hov⟩:∃ovv,fo i j=ovv:=⟨_,rfl⟩
       obtain⟨ikv,hikv⟩:∃ikv,fo i k=ikv:=⟨_,rfl⟩
       obtain⟨kjv,hkjv⟩:∃kjv,fo k j=kjv:=⟨_,rfl⟩
       have HV:Hid (fo i j=ovv∧fo i k=ikv∧fo k j=kjv):=⟨hov,hikv,hkjv⟩
       rw[hov]at a1
       rw[hikv]at a2
       rw[hkjv]at a4
       clear hra hov hikv hkjv c1
       have c1:wr.cell? ⟨ρ i,j,none⟩=some (.bool (f i j)):=(HJ.1.row i hlt).cell hlj
       go_upto_region 12 with fail
       cases ovv
       case true=>
        have hSd:(fun w':World=>w'.cell? ⟨g,i,none⟩=some (slV (ρ i) (n+1) (γ i))∧w'.cell? ⟨go,i,none⟩=some (slV (ρo i) (n+1) (γo i))∧w'.cell? ⟨ρo i,j,none⟩=some (.bool true)∧w'.cell? ⟨ρo i,k,none⟩=some (.bool ikv)∧w'.cell? ⟨go,k,none⟩=some (slV (ρo k) (n+1) (γo k))∧w'.cell? ⟨ρo k,j,none⟩=some (.bool kjv)) wr.drew:=⟨c0,a0,a1,a2,a3,a4⟩
        refine wp_region_T 41 (fun w':World=>w'.cell? ⟨g,i,none⟩=some (slV (ρ i) (n+1) (γ i))∧w'.cell? ⟨go,i,none⟩=some (slV (ρo i) (n+1) (γo i))∧w'.cell? ⟨ρo i,j,none⟩=some (.bool true)∧w'.cell? ⟨ρo i,k,none⟩=some (.bool ikv)∧w'.cell? ⟨go,k,none⟩=some (slV (ρo k) (n+1) (γo k))∧w'.cell? ⟨ρo k,j,none⟩=some (.bool kjv)) (by kernel_rfl) ?_
        refine qU 0 ?va0 rfl ?ya0 hSd ?_
        case ya0=>exact zzR1
        try simp only[qA,List.getElem_toArray,List.getElem_cons_zero,List.getElem_cons_succ]
        refine qU 1 ?va1 rfl ?ya1 hSd ?_
        case ya1=>exact zzR1
        try simp only[qA,List.getElem_toArray,List.getElem_cons_zero,List.getElem_cons_succ]
        refine qU 2 ?va2 rfl ?ya2 hSd ?_
        case ya2=>exact zzR1
        try simp only[qA,List.getElem_toArray,List.getElem_cons_zero,List.getElem_cons_succ]
        refine qU 3 ?va3 rfl ?ya3 hSd ?_
        case ya3=>exact zzR1
        try simp only[qA,List.getElem_toArray,List.getElem_cons_zero,List.getElem_cons_succ]
        refine qU 4 ?va4 rfl ?ya4 hSd ?_
        case ya4=>exact zzR1
        try simp only[qA,List.getElem_toArray,List.getElem_cons_zero,List.getElem_cons_succ]
        refine qU 5 ?va5 rfl ?ya5 hSd ?_
        case ya5=>exact zzR1
        try simp only[qA,List.getElem_toArray,List.getElem_cons_zero,List.getElem_cons_succ]
        refine qU 6 ?va6 rfl ?ya6 hSd ?_
        case ya6=>exact zzR1
        try simp only[qA,List.getElem_toArray,List.getElem_cons_zero,List.getElem_cons_succ]
        refine qU 7 ?va7 rfl ?ya7 hSd ?_
        case ya7=>exact zzR1
        try simp only[qA,List.getElem_toArray,List.getElem_cons_zero,List.getElem_cons_succ]
        refine qU 8 ?va8 rfl ?ya8 hSd ?_
        case ya8=>exact zzR1
        try simp only[qA,List.getElem_toArray,List.getElem_cons_zero,List.getElem_cons_succ]
        refine qU 9 ?va9 rfl ?ya9 hSd ?_
        case ya9=>exact zzR1
        try simp only[qA,List.getElem_toArray,List.getElem_cons_zero,List.getElem_cons_succ]
        refine qU 10 ?va10 rfl ?ya10 hSd ?_
        case ya10=>exact zzR1
        try simp only[qA,List.getElem_toArray,List.getElem_cons_zero,List.getElem_cons_succ]
        refine qU 11 ?va11 rfl ?ya11 hSd ?_
        case ya11=>exact zzR1
        try simp only[qA,List.getElem_toArray,List.getElem_cons_zero,List.getElem_cons_succ]
        refine qU 12 ?va12 rfl ?ya12 hSd ?_
        case ya12=>exact zzR1
        try simp only[qA,List.getElem_toArray,List.getElem_cons_zero,List.getElem_cons_succ]
        refine anyT_take (i:=13) (v:=undef) rfl (by kernel_rfl) (by kernel_rfl) (by kernel_rfl) (by kernel_rfl) (by decide) (fun _ _ _ h=>h) (Or.inr ⟨by rfl,rfl⟩) hSd ?_
        try simp only[qA,List.getElem_toArray,List.getElem_cons_zero,List.getElem_cons_succ]
        refine anyT_take (i:=14) (v:=undef) rfl (by kernel_rfl) (by kernel_rfl) (by kernel_rfl) (by kernel_rfl) (by decide) (fun _ _ _ h=>h) (Or.inr ⟨by rfl,rfl⟩) hSd ?_
        try simp only[qA,List.getElem_toArray,List.getElem_cons_zero,List.getElem_cons_succ]
        refine anyT_take (i:=15) (v:=undef) rfl (by kernel_rfl) (by kernel_rfl) (by kernel_rfl) (by kernel_rfl) (by decide) (fun _ _ _ h=>h) (Or.inr ⟨by rfl,rfl⟩) hSd ?_
        try simp only[qA,List.getElem_toArray,List.getElem_cons_zero,List.getElem_cons_succ]
        refine anyT_take (i:=16) (v:=undef) rfl (by kernel_rfl) (by kernel_rfl) (by kernel_rfl) (by kernel_rfl) (by decide) (fun _ _ _ h=>h) (Or.inr ⟨by rfl,rfl⟩) hSd ?_
        try simp only[qA,List.getElem_toArray,List.getElem_cons_zero,List.getElem_cons_succ]
        refine anyT_take (i:=17) (v:=undef) rfl (by kernel_rfl) (by kernel_rfl) (by kernel_rfl) (by kernel_rfl) (by decide) (fun _ _ _ h=>h) (Or.inr ⟨by rfl,rfl⟩) hSd ?_
        try simp only[qA,List.getElem_toArray,List.getElem_cons_zero,List.getElem_cons_succ]
        refine anyT_take (i:=18) (v:=undef) rfl (by kernel_rfl) (by kernel_rfl) (by kernel_rfl) (by kernel_rfl) (by decide) (fun _ _ _ h=>h) (Or.inr ⟨by rfl,rfl⟩) hSd ?_
        try simp only[qA,List.getElem_toArray,List.getElem_cons_zero,List.getElem_cons_succ]
        refine anyT_take (i:=19) (v:=undef) rfl (by kernel_rfl) (by kernel_rfl) (by kernel_rfl) (by kernel_rfl) (by decide) (fun _ _ _ h=>h) (Or.inr ⟨by rfl,rfl⟩) hSd ?_
        try simp only[qA,List.getElem_toArray,List.getElem_cons_zero,List.getElem_cons_succ]
        refine anyT_take (i:=20) (v:=undef) rfl (by kernel_rfl) (by kernel_rfl) (by kernel_rfl) (by kernel_rfl) (by decide) (fun _ _ _ h=>h) (Or.inr ⟨by rfl,rfl⟩) hSd ?_
        try simp only[qA,List.getElem_toArray,List.getElem_cons_zero,List.getElem_cons_succ]
        refine anyT_take (i:=21) (v:=undef) rfl (by kernel_rfl) (by kernel_rfl) (by kernel_rfl) (by kernel_rfl) (by decide) (fun _ _ _ h=>h) (Or.inr ⟨by rfl,rfl⟩) hSd ?_
        try simp only[qA,List.getElem_toArray,List.getElem_cons_zero,List.getElem_cons_succ]
        refine anyT_take (i:=22) (v:=undef) rfl (by kernel_rfl) (by kernel_rfl) (by kernel_rfl) (by kernel_rfl) (by decide) (fun _ _ _ h=>h) (Or.inr ⟨by rfl,rfl⟩) hSd ?_
        try simp only[qA,List.getElem_toArray,List.getElem_cons_zero,List.getElem_cons_succ]
        refine anyT_take (i:=23) (v:=undef) rfl (by kernel_rfl) (by kernel_rfl) (by kernel_rfl) (by kernel_rfl) (by decide) (fun _ _ _ h=>h) (Or.inr ⟨by rfl,rfl⟩) hSd ?_
        try simp only[qA,List.getElem_toArray,List.getElem_cons_zero,List.getElem_cons_succ]
        refine anyT_take (i:=24) (v:=undef) rfl (by kernel_rfl) (by kernel_rfl) (by kernel_rfl) (by kernel_rfl) (by decide) (fun _ _ _ h=>h) (Or.inr ⟨by rfl,rfl⟩) hSd ?_
        try simp only[qA,List.getElem_toArray,List.getElem_cons_zero,List.getElem_cons_succ]
        refine anyT_take (i:=25) (v:=undef) rfl (by kernel_rfl) (by kernel_rfl) (by kernel_rfl) (by kernel_rfl) (by decide) (fun _ _ _ h=>h) (Or.inr ⟨by rfl,rfl⟩) hSd ?_
        try simp only[qA,List.getElem_toArray,List.getElem_cons_zero,List.getElem_cons_succ]
        refine anyT_take (i:=26) (v:=undef) rfl (by kernel_rfl) (by kernel_rfl) (by kernel_rfl) (by kernel_rfl) (by decide) (fun _ _ _ h=>h) (Or.inr ⟨by rfl,rfl⟩) hSd ?_
        try simp only[qA,List.getElem_toArray,List.getElem_cons_zero,List.getElem_cons_succ]
        refine anyT_take (i:=27) (v:=undef) rfl (by kernel_rfl) (by kernel_rfl) (by kernel_rfl) (by kernel_rfl) (by decide) (fun _ _ _ h=>h) (Or.inr ⟨by rfl,rfl⟩) hSd ?_
        try simp only[qA,List.getElem_toArray,List.getElem_cons_zero,List.getElem_cons_succ]
        refine anyT_take (i:=28) (v:=undef) rfl (by kernel_rfl) (by kernel_rfl) (by kernel_rfl) (by kernel_rfl) (by decide) (fun _ _ _ h=>h) (Or.inr ⟨by rfl,rfl⟩) hSd ?_
        try simp only[qA,List.getElem_toArray,List.getElem_cons_zero,List.getElem_cons_succ]
        refine anyT_take (i:=29) (v:=undef) rfl (by kernel_rfl) (by kernel_rfl) (by kernel_rfl) (by kernel_rfl) (by decide) (fun _ _ _ h=>h) (Or.inr ⟨by rfl,rfl⟩) hSd ?_
        try simp only[qA,List.getElem_toArray,List.getElem_cons_zero,List.getElem_cons_succ]
        refine anyT_take (i:=30) (v:=undef) rfl (by kernel_rfl) (by kernel_rfl) (by kernel_rfl) (by kernel_rfl) (by decide) (fun _ _ _ h=>h) (Or.inr ⟨by rfl,rfl⟩) hSd ?_
        try simp only[qA,List.getElem_toArray,List.getElem_cons_zero,List.getElem_cons_succ]
        refine anyT_take (i:=31) (v:=undef) rfl (by kernel_rfl) (by kernel_rfl) (by kernel_rfl) (by kernel_rfl) (by decide) (fun _ _ _ h=>h) (Or.inr ⟨by rfl,rfl⟩) hSd ?_
        try simp only[qA,List.getElem_toArray,List.getElem_cons_zero,List.getElem_cons_succ]
        refine anyT_take (i:=32) (v:=undef) rfl (by kernel_rfl) (by kernel_rfl) (by kernel_rfl) (by kernel_rfl) (by decide) (fun _ _ _ h=>h) (Or.inr ⟨by rfl,rfl⟩) hSd ?_
        try simp only[qA,List.getElem_toArray,List.getElem_cons_zero,List.getElem_cons_succ]
        refine anyT_take (i:=33) (v:=undef) rfl (by kernel_rfl) (by kernel_rfl) (by kernel_rfl) (by kernel_rfl) (by decide) (fun _ _ _ h=>h) (Or.inr ⟨by rfl,rfl⟩) hSd ?_
        try simp only[qA,List.getElem_toArray,List.getElem_cons_zero,List.getElem_cons_succ]
        refine anyT_take (i:=34) (v:=undef) rfl (by kernel_rfl) (by kernel_rfl) (by kernel_rfl) (by kernel_rfl) (by decide) (fun _ _ _ h=>h) (Or.inr ⟨by rfl,rfl⟩) hSd ?_
        try simp only[qA,List.getElem_toArray,List.getElem_cons_zero,List.getElem_cons_succ]
        refine anyT_take (i:=35) (v:=undef) rfl (by kernel_rfl) (by kernel_rfl) (by kernel_rfl) (by kernel_rfl) (by decide) (fun _ _ _ h=>h) (Or.inr ⟨by rfl,rfl⟩) hSd ?_
        try simp only[qA,List.getElem_toArray,List.getElem_cons_zero,List.getElem_cons_succ]
        refine anyT_take (i:=36) (v:=undef) rfl (by kernel_rfl) (by kernel_rfl) (by kernel_rfl) (by kernel_rfl) (by decide) (fun _ _ _ h=>h) (Or.inr ⟨by rfl,rfl⟩) hSd ?_
        try simp only[qA,List.getElem_toArray,List.getElem_cons_zero,List.getElem_cons_succ]
        refine anyT_take (i:=37) (v:=undef) rfl (by kernel_rfl) (by kernel_rfl) (by kernel_rfl) (by kernel_rfl) (by decide) (fun _ _ _ h=>h) (Or.inr ⟨by rfl,rfl⟩) hSd ?_
        try simp only[qA,List.getElem_toArray,List.getElem_cons_zero,List.getElem_cons_succ]
        refine anyT_take (i:=38) (v:=undef) rfl (by kernel_rfl) (by kernel_rfl) (by kernel_rfl) (by kernel_rfl) (by decide) (fun _ _ _ h=>h) (Or.inr ⟨by rfl,rfl⟩) hSd ?_
        try simp only[qA,List.getElem_toArray,List.getElem_cons_zero,List.getElem_cons_succ]
        refine qU 39 ?va39 rfl ?ya39 hSd ?_
        case ya39=>exact zzR1
        try simp only[qA,List.getElem_toArray,List.getElem_cons_zero,List.getElem_cons_succ]
        refine qO 40 rfl fun K hK=>?_
        go_simp
        refine hK.out _ _ (.inr hSd) ?_
        clear hK
        try simp only[qA,List.getElem_toArray,List.getElem_cons_zero,List.getElem_cons_succ]
        refine qO 41 rfl fun K hK=>?_
        go_simp
        refine hK.out _ _ (.inl rfl) ?_
        clear hK
        try simp only[qA,List.getElem_toArray,List.getElem_cons_zero,List.getElem_cons_succ]
        refine qD ?_
        have HJ3:=HJ2.out true (by have h1:=HV.1;have h2:=HV.2.1;have h3:=HV.2.2;unfold viaF;rw[h1];simp)
        go_wp2_with fail
        go_roundw
        case rel=>first|exact⟨j+1,by omega,by omega,by go_num,upd2 f i j true,HJ3⟩|exact⟨j+1,upd2 f i j true,by omega,by omega,by go_num,HJ3⟩
        case measure=>simp[intOf];omega
       case false=>
        by_cases hik:i≤k
        ·have hd1:decide ((i:Int)≤(k:Int))=true:=by simp;omega
         by_cases hkj:k≤j
         ·have hd2:decide ((k:Int)≤(j:Int))=true:=by simp;omega
          cases ikv
          case false=>
           have hSd:(fun w':World=>w'.cell? ⟨g,i,none⟩=some (slV (ρ i) (n+1) (γ i))∧w'.cell? ⟨go,i,none⟩=some (slV (ρo i) (n+1) (γo i))∧w'.cell? ⟨ρo i,j,none⟩=some (.bool false)∧w'.cell? ⟨ρo i,k,none⟩=some (.bool false)∧w'.cell? ⟨go,k,none⟩=some (slV (ρo k) (n+1) (γo k))∧w'.cell? ⟨ρo k,j,none⟩=some (.bool kjv)) wr.drew:=⟨c0,a0,a1,a2,a3,a4⟩
           refine wp_region_T 41 (fun w':World=>w'.cell? ⟨g,i,none⟩=some (slV (ρ i) (n+1) (γ i))∧w'.cell? ⟨go,i,none⟩=some (slV (ρo i) (n+1) (γo i))∧w'.cell? ⟨ρo i,j,none⟩=some (.bool false)∧w'.cell? ⟨ρo i,k,none⟩=some (.bool false)∧w'.cell? ⟨go,k,none⟩=some (slV (ρo k) (n+1) (γo k))∧w'.cell? ⟨ρo k,j,none⟩=some (.bool kjv)) (by kernel_rfl) ?_
           refine qU 0 ?vd0 rfl ?yd0 hSd ?_
           case yd0=>exact zzR1
           try simp only[qA,List.getElem_toArray,List.getElem_cons_zero,List.getElem_cons_succ]
           refine qU 1 ?vd1 rfl ?yd1 hSd ?_
           case yd1=>exact zzR1
           try simp only[qA,List.getElem_toArray,List.getElem_cons_zero,List.getElem_cons_succ]
           refine qU 2 ?vd2 rfl ?yd2 hSd ?_
           case yd2=>exact zzR1
           try simp only[qA,List.getElem_toArray,List.getElem_cons_zero,List.getElem_cons_succ]
           refine qU 3 ?vd3 rfl ?yd3 hSd ?_
           case yd3=>exact zzR1
           try simp only[qA,List.getElem_toArray,List.getElem_cons_zero,List.getElem_cons_succ]
           refine qU 4 ?vd4 rfl ?yd4 hSd ?_
           case yd4=>exact zzR1
           try simp only[qA,List.getElem_toArray,List.getElem_cons_zero,List.getElem_cons_succ]
           refine qU 5 ?vd5 rfl ?yd5 hSd ?_
           case yd5=>exact zzR1
           try simp only[qA,List.getElem_toArray,List.getElem_cons_zero,List.getElem_cons_succ]
           refine qU 6 ?vd6 rfl ?yd6 hSd ?_
           case yd6=>exact zzR1
           try simp only[qA,List.getElem_toArray,List.getElem_cons_zero,List.getElem_cons_succ]
           refine qU 7 ?vd7 rfl ?yd7 hSd ?_
           case yd7=>exact zzR1
           try simp only[qA,List.getElem_toArray,List.getElem_cons_zero,List.getElem_cons_succ]
           refine qU 8 ?vd8 rfl ?yd8 hSd ?_
           case yd8=>exact zzR1
           try simp only[qA,List.getElem_toArray,List.getElem_cons_zero,List.getElem_cons_succ]
           refine qU 9 ?vd9 rfl ?yd9 hSd ?_
           case yd9=>exact zzR1
           try simp only[qA,List.getElem_toArray,List.getElem_cons_zero,List.getElem_cons_succ]
           refine qU 10 ?vd10 rfl ?yd10 hSd ?_
           case yd10=>exact zzR1
           try simp only[qA,List.getElem_toArray,List.getElem_cons_zero,List.getElem_cons_succ]
           refine qU 11 ?vd11 rfl ?yd11 hSd ?_
           case yd11=>exact zzR1
           try simp only[qA,List.getElem_toArray,List.getElem_cons_zero,List.getElem_cons_succ]
           refine qU 12 ?vd12 rfl ?yd12 hSd ?_
           case yd12=>exact zzR1
           try simp only[qA,List.getElem_toArray,List.getElem_cons_zero,List.getElem_cons_succ]
           refine qU 13 ?vd13 rfl ?yd13 hSd ?_
           case yd13=>exact zzR1
           try simp only[qA,List.getElem_toArray,List.getElem_cons_zero,List.getElem_cons_succ]
           refine qU 14 ?vd14 rfl ?yd14 hSd ?_
           case yd14=>exact zzR1
           try simp only[qA,List.getElem_toArray,List.getElem_cons_zero,List.getElem_cons_succ]
           refine qU 15 (.bool true) rfl ?yd15 hSd ?_
           case yd15=>exact zzR20
           try simp only[qA,List.getElem_toArray,List.getElem_cons_zero,List.getElem_cons_succ]
           refine qU 16 ?vd16 rfl ?yd16 hSd ?_
           case yd16=>exact zzR1
           try simp only[qA,List.getElem_toArray,List.getElem_cons_zero,List.getElem_cons_succ]
           refine qU 17 ?vd17 rfl ?yd17 hSd ?_
           case yd17=>exact zzR1
           try simp only[qA,List.getElem_toArray,List.getElem_cons_zero,List.getElem_cons_succ]
           refine qU 18 ?vd18 rfl ?yd18 hSd ?_
           case yd18=>exact zzR1
           try simp only[qA,List.getElem_toArray,List.getElem_cons_zero,List.getElem_cons_succ]
           refine qU 19 (.bool true) rfl ?yd19 hSd ?_
           case yd19=>exact zzR23
           try simp only[qA,List.getElem_toArray,List.getElem_cons_zero,List.getElem_cons_succ]
           refine qU 20 ?vd20 rfl ?yd20 hSd ?_
           case yd20=>exact zzR1
           try simp only[qA,List.getElem_toArray,List.getElem_cons_zero,List.getElem_cons_succ]
           refine qU 21 ?vd21 rfl ?yd21 hSd ?_
           case yd21=>exact zzR1
           try simp only[qA,List.getElem_toArray,List.getElem_cons_zero,List.getElem_cons_succ]
           refine qU 22 ?vd22 rfl ?yd22 hSd ?_
           case yd22=>exact zzR1
           try simp only[qA,List.getElem_toArray,List.getElem_cons_zero,List.getElem_cons_succ]
           refine qU 23 ?vd23 rfl ?yd23 hSd ?_
           case yd23=>exact zzR1
           try simp only[qA,List.getElem_toArray,List.getElem_cons_zero,List.getElem_cons_succ]
           refine qU 24 ?vd24 rfl ?yd24 hSd ?_
           case yd24=>exact zzR1
           try simp only[qA,List.getElem_toArray,List.getElem_cons_zero,List.getElem_cons_succ]
           refine qU 25 ?vd25 rfl ?yd25 hSd ?_
           case yd25=>exact zzR1
           try simp only[qA,List.getElem_toArray,List.getElem_cons_zero,List.getElem_cons_succ]
           refine qU 26 ?vd26 rfl ?yd26 hSd ?_
           case yd26=>exact zzR1
           try simp only[qA,List.getElem_toArray,List.getElem_cons_zero,List.getElem_cons_succ]
           refine qU 27 ?vd27 rfl ?yd27 hSd ?_
           case yd27=>exact zzR1
           try simp only[qA,List.getElem_toArray,List.getElem_cons_zero,List.getElem_cons_succ]
           refine qU 28 ?vd28 rfl ?yd28 hSd ?_
           case yd28=>exact zzR1
           try simp only[qA,List.getElem_toArray,List.getElem_cons_zero,List.getElem_cons_succ]
           refine qU 29 ?vd29 rfl ?yd29 hSd ?_
           case yd29=>exact zzR1
           try simp only[qA,List.getElem_toArray,List.getElem_cons_zero,List.getElem_cons_succ]
           refine qU 30 ?vd30 rfl ?yd30 hSd ?_
           case yd30=>exact zzR1
           try simp only[qA,List.getElem_toArray,List.getElem_cons_zero,List.getElem_cons_succ]
           refine anyT_take (i:=31) (v:=undef) rfl (by kernel_rfl) (by kernel_rfl) (by kernel_rfl) (by kernel_rfl) (by decide) (fun _ _ _ h=>h) (Or.inr ⟨by rfl,rfl⟩) hSd ?_
           try simp only[qA,List.getElem_toArray,List.getElem_cons_zero,List.getElem_cons_succ]
           refine anyT_take (i:=32) (v:=undef) rfl (by kernel_rfl) (by kernel_rfl) (by kernel_rfl) (by kernel_rfl) (by decide) (fun _ _ _ h=>h) (Or.inr ⟨by rfl,rfl⟩) hSd ?_
           try simp only[qA,List.getElem_toArray,List.getElem_cons_zero,List.getElem_cons_succ]
           refine anyT_take (i:=33) (v:=undef) rfl (by kernel_rfl) (by kernel_rfl) (by kernel_rfl) (by kernel_rfl) (by decide) (fun _ _ _ h=>h) (Or.inr ⟨by rfl,rfl⟩) hSd ?_
           try simp only[qA,List.getElem_toArray,List.getElem_cons_zero,List.getElem_cons_succ]
           refine anyT_take (i:=34) (v:=undef) rfl (by kernel_rfl) (by kernel_rfl) (by kernel_rfl) (by kernel_rfl) (by decide) (fun _ _ _ h=>h) (Or.inr ⟨by rfl,rfl⟩) hSd ?_
           try simp only[qA,List.getElem_toArray,List.getElem_cons_zero,List.getElem_cons_succ]
           refine anyT_take (i:=35) (v:=undef) rfl (by kernel_rfl) (by kernel_rfl) (by kernel_rfl) (by kernel_rfl) (by decide) (fun _ _ _ h=>h) (Or.inr ⟨by rfl,rfl⟩) hSd ?_
           try simp only[qA,List.getElem_toArray,List.getElem_cons_zero,List.getElem_cons_succ]
           refine anyT_take (i:=36) (v:=undef) rfl (by kernel_rfl) (by kernel_rfl) (by kernel_rfl) (by kernel_rfl) (by decide) (fun _ _ _ h=>h) (Or.inr ⟨by rfl,rfl⟩) hSd ?_
           try simp only[qA,List.getElem_toArray,List.getElem_cons_zero,List.getElem_cons_succ]
           refine anyT_take (i:=37) (v:=undef) rfl (by kernel_rfl) (by kernel_rfl) (by kernel_rfl) (by kernel_rfl) (by decide) (fun _ _ _ h=>h) (Or.inr ⟨by rfl,rfl⟩) hSd ?_
           try simp only[qA,List.getElem_toArray,List.getElem_cons_zero,List.getElem_cons_succ]
           refine qU 38 ?vd38 rfl ?yd38 hSd ?_
           case yd38=>exact zzR1
           try simp only[qA,List.getElem_toArray,List.getElem_cons_zero,List.getElem_cons_succ]
           refine qU 39 ?vd39 rfl ?yd39 hSd ?_
           case yd39=>exact zzR1
           exact zzQ17
          case true=>
           have hSd:(fun w':World=>w'.cell? ⟨g,i,none⟩=some (slV (ρ i) (n+1) (γ i))∧w'.cell? ⟨go,i,none⟩=some (slV (ρo i) (n+1) (γo i))∧w'.cell? ⟨ρo i,j,none⟩=some (.bool false)∧w'.cell? ⟨ρo i,k,none⟩=some (.bool true)∧w'.cell? ⟨go,k,none⟩=some (slV (ρo k) (n+1) (γo k))∧w'.cell? ⟨ρo k,j,none⟩=some (.bool kjv)) wr.drew:=⟨c0,a0,a1,a2,a3,a4⟩
           refine wp_region_T 41 (fun w':World=>w'.cell? ⟨g,i,none⟩=some (slV (ρ i) (n+1) (γ i))∧w'.cell? ⟨go,i,none⟩=some (slV (ρo i) (n+1) (γo i))∧w'.cell? ⟨ρo i,j,none⟩=some (.bool false)∧w'.cell? ⟨ρo i,k,none⟩=some (.bool true)∧w'.cell? ⟨go,k,none⟩=some (slV (ρo k) (n+1) (γo k))∧w'.cell? ⟨ρo k,j,none⟩=some (.bool kjv)) (by kernel_rfl) ?_
           refine qU 0 ?ve0 rfl ?ye0 hSd ?_
           case ye0=>exact zzR1
           try simp only[qA,List.getElem_toArray,List.getElem_cons_zero,List.getElem_cons_succ]
           refine qU 1 ?ve1 rfl ?ye1 hSd ?_
           case ye1=>exact zzR1
           try simp only[qA,List.getElem_toArray,List.getElem_cons_zero,List.getElem_cons_succ]
           refine qU 2 ?ve2 rfl ?ye2 hSd ?_
           case ye2=>exact zzR1
           try simp only[qA,List.getElem_toArray,List.getElem_cons_zero,List.getElem_cons_succ]
           refine qU 3 ?ve3 rfl ?ye3 hSd ?_
           case ye3=>exact zzR1
           try simp only[qA,List.getElem_toArray,List.getElem_cons_zero,List.getElem_cons_succ]
           refine qU 4 ?ve4 rfl ?ye4 hSd ?_
           case ye4=>exact zzR1
           try simp only[qA,List.getElem_toArray,List.getElem_cons_zero,List.getElem_cons_succ]
           refine qU 5 ?ve5 rfl ?ye5 hSd ?_
           case ye5=>exact zzR1
           try simp only[qA,List.getElem_toArray,List.getElem_cons_zero,List.getElem_cons_succ]
           refine qU 6 ?ve6 rfl ?ye6 hSd ?_
           case ye6=>exact zzR1
           try simp only[qA,List.getElem_toArray,List.getElem_cons_zero,List.getElem_cons_succ]
           refine qU 7 ?ve7 rfl ?ye7 hSd ?_
           case ye7=>exact zzR1
           try simp only[qA,List.getElem_toArray,List.getElem_cons_zero,List.getElem_cons_succ]
           refine qU 8 ?ve8 rfl ?ye8 hSd ?_
           case ye8=>exact zzR1
           try simp only[qA,List.getElem_toArray,List.getElem_cons_zero,List.getElem_cons_succ]
           refine qU 9 ?ve9 rfl ?ye9 hSd ?_
           case ye9=>exact zzR1
           try simp only[qA,List.getElem_toArray,List.getElem_cons_zero,List.getElem_cons_succ]
           refine qU 10 ?ve10 rfl ?ye10 hSd ?_
           case ye10=>exact zzR1
           try simp only[qA,List.getElem_toArray,List.getElem_cons_zero,List.getElem_cons_succ]
           refine qU 11 ?ve11 rfl ?ye11 hSd ?_
           case ye11=>exact zzR1
           try simp only[qA,List.getElem_toArray,List.getElem_cons_zero,List.getElem_cons_succ]
           refine qU 12 ?ve12 rfl ?ye12 hSd ?_
           case ye12=>exact zzR1
           try simp only[qA,List.getElem_toArray,List.getElem_cons_zero,List.getElem_cons_succ]
           refine qU 13 ?ve13 rfl ?ye13 hSd ?_
           case ye13=>exact zzR1
           try simp only[qA,List.getElem_toArray,List.getElem_cons_zero,List.getElem_cons_succ]
           refine qU 14 ?ve14 rfl ?ye14 hSd ?_
           case ye14=>exact zzR1
           try simp only[qA,List.getElem_toArray,List.getElem_cons_zero,List.getElem_cons_succ]
           refine qU 15 (.bool true) rfl ?ye15 hSd ?_
           case ye15=>exact zzR20
           try simp only[qA,List.getElem_toArray,List.getElem_cons_zero,List.getElem_cons_succ]
           refine qU 16 ?ve16 rfl ?ye16 hSd ?_
           case ye16=>exact zzR1
           try simp only[qA,List.getElem_toArray,List.getElem_cons_zero,List.getElem_cons_succ]
           refine qU 17 ?ve17 rfl ?ye17 hSd ?_
           case ye17=>exact zzR1
           try simp only[qA,List.getElem_toArray,List.getElem_cons_zero,List.getElem_cons_succ]
           refine qU 18 ?ve18 rfl ?ye18 hSd ?_
           case ye18=>exact zzR1
           try simp only[qA,List.getElem_toArray,List.getElem_cons_zero,List.getElem_cons_succ]
           refine qU 19 (.bool true) rfl ?ye19 hSd ?_
           case ye19=>exact zzR23
           try simp only[qA,List.getElem_toArray,List.getElem_cons_zero,List.getElem_cons_succ]
           refine qU 20 ?ve20 rfl ?ye20 hSd ?_
           case ye20=>exact zzR1
           try simp only[qA,List.getElem_toArray,List.getElem_cons_zero,List.getElem_cons_succ]
           refine qU 21 ?ve21 rfl ?ye21 hSd ?_
           case ye21=>exact zzR1
           try simp only[qA,List.getElem_toArray,List.getElem_cons_zero,List.getElem_cons_succ]
           refine qU 22 ?ve22 rfl ?ye22 hSd ?_
           case ye22=>exact zzR1
           try simp only[qA,List.getElem_toArray,List.getElem_cons_zero,List.getElem_cons_succ]
           refine qU 23 ?ve23 rfl ?ye23 hSd ?_
           case ye23=>exact zzR1
           try simp only[qA,List.getElem_toArray,List.getElem_cons_zero,List.getElem_cons_succ]
           refine qU 24 ?ve24 rfl ?ye24 hSd ?_
           case ye24=>exact zzR1
           try simp only[qA,List.getElem_toArray,List.getElem_cons_zero,List.getElem_cons_succ]
           refine qU 25 ?ve25 rfl ?ye25 hSd ?_
           case ye25=>exact zzR1
           try simp only[qA,List.getElem_toArray,List.getElem_cons_zero,List.getElem_cons_succ]
           refine qU 26 ?ve26 rfl ?ye26 hSd ?_
           case ye26=>exact zzR1
           try simp only[qA,List.getElem_toArray,List.getElem_cons_zero,List.getElem_cons_succ]
           refine qU 27 ?ve27 rfl ?ye27 hSd ?_
           case ye27=>exact zzR1
           try simp only[qA,List.getElem_toArray,List.getElem_cons_zero,List.getElem_cons_succ]
           refine qU 28 ?ve28 rfl ?ye28 hSd ?_
           case ye28=>exact zzR1
           try simp only[qA,List.getElem_toArray,List.getElem_cons_zero,List.getElem_cons_succ]
           refine qU 29 ?ve29 rfl ?ye29 hSd ?_
           case ye29=>exact zzR1
           try simp only[qA,List.getElem_toArray,List.getElem_cons_zero,List.getElem_cons_succ]
           refine qU 30 ?ve30 rfl ?ye30 hSd ?_
           case ye30=>exact zzR1
           try simp only[qA,List.getElem_toArray,List.getElem_cons_zero,List.getElem_cons_succ]
           refine qU 31 ?ve31 rfl ?ye31 hSd ?_
           case ye31=>exact zzR1
           try simp only[qA,List.getElem_toArray,List.getElem_cons_zero,List.getElem_cons_succ]
           refine qU 32 ?ve32 rfl ?ye32 hSd ?_
           case ye32=>exact zzR1
           try simp only[qA,List.getElem_toArray,List.getElem_cons_zero,List.getElem_cons_succ]
           refine qU 33 ?ve33 rfl ?ye33 hSd ?_
           case ye33=>exact zzR1
           try simp only[qA,List.getElem_toArray,List.getElem_cons_zero,List.getElem_cons_succ]
           refine qU 34 ?ve34 rfl ?ye34 hSd ?_
           case ye34=>exact zzR1
           try simp only[qA,List.getElem_toArray,List.getElem_cons_zero,List.getElem_cons_succ]
           refine qU 35 ?ve35 rfl ?ye35 hSd ?_
           case ye35=>exact zzR1
           try simp only[qA,List.getElem_toArray,List.getElem_cons_zero,List.getElem_cons_succ]
           refine qU 36 ?ve36 rfl ?ye36 hSd ?_
           case ye36=>exact zzR1
           try simp only[qA,List.getElem_toArray,List.getElem_cons_zero,List.getElem_cons_succ]
           refine qU 37 ?ve37 rfl ?ye37 hSd ?_
           case ye37=>exact zzR1
           try simp only[qA,List.getElem_toArray,List.getElem_cons_zero,List.getElem_cons_succ]
           refine qU 38 ?ve38 rfl ?ye38 hSd ?_
           case ye38=>exact zzR1
           try simp only[qA,List.getElem_toArray,List.getElem_cons_zero,List.getElem_cons_succ]
           refine qU 39 ?ve39 rfl ?ye39 hSd ?_
           case ye39=>exact zzR1
           try simp only[qA,List.getElem_toArray,List.getElem_cons_zero,List.getElem_cons_succ]
           refine qO 40 rfl fun K hK=>?_
           go_simp
           refine hK.out _ _ (.inr hSd) ?_
           clear hK
           try simp only[qA,List.getElem_toArray,List.getElem_cons_zero,List.getElem_cons_succ]
           refine qO 41 rfl fun K hK=>?_
           go_simp
           refine hK.out _ _ (.inl rfl) ?_
           clear hK
           try simp only[qA,List.getElem_toArray,List.getElem_cons_zero,List.getElem_cons_succ]
           refine qD ?_
           have HJ3:=HJ2.out kjv (by have h1:=HV.1;have h2:=HV.2.1;have h3:=HV.2.2;unfold viaF;rw[h1,h2,h3];simp[hik,hkj])
           go_wp2_with fail
           go_roundw
           case rel=>first|exact⟨j+1,by omega,by omega,by go_num,upd2 f i j kjv,HJ3⟩|exact⟨j+1,upd2 f i j kjv,by omega,by omega,by go_num,HJ3⟩
           case measure=>simp[intOf];omega
         ·have hd2:decide ((k:Int)≤(j:Int))=false:=by simp;omega
          have hSd:(fun w':World=>w'.cell? ⟨g,i,none⟩=some (slV (ρ i) (n+1) (γ i))∧w'.cell? ⟨go,i,none⟩=some (slV (ρo i) (n+1) (γo i))∧w'.cell? ⟨ρo i,j,none⟩=some (.bool false)∧w'.cell? ⟨ρo i,k,none⟩=some (.bool ikv)∧w'.cell? ⟨go,k,none⟩=some (slV (ρo k) (n+1) (γo k))∧w'.cell? ⟨ρo k,j,none⟩=some (.bool kjv)) wr.drew:=⟨c0,a0,a1,a2,a3,a4⟩
          refine wp_region_T 41 (fun w':World=>w'.cell? ⟨g,i,none⟩=some (slV (ρ i) (n+1) (γ i))∧w'.cell? ⟨go,i,none⟩=some (slV (ρo i) (n+1) (γo i))∧w'.cell? ⟨ρo i,j,none⟩=some (.bool false)∧w'.cell? ⟨ρo i,k,none⟩=some (.bool ikv)∧w'.cell? ⟨go,k,none⟩=some (slV (ρo k) (n+1) (γo k))∧w'.cell? ⟨ρo k,j,none⟩=some (.bool kjv)) (by kernel_rfl) ?_
          refine qU 0 ?vc0 rfl ?yc0 hSd ?_
          case yc0=>exact zzR1
          try simp only[qA,List.getElem_toArray,List.getElem_cons_zero,List.getElem_cons_succ]
          refine qU 1 ?vc1 rfl ?yc1 hSd ?_
          case yc1=>exact zzR1
          try simp only[qA,List.getElem_toArray,List.getElem_cons_zero,List.getElem_cons_succ]
          refine qU 2 ?vc2 rfl ?yc2 hSd ?_
          case yc2=>exact zzR1
          try simp only[qA,List.getElem_toArray,List.getElem_cons_zero,List.getElem_cons_succ]
          refine qU 3 ?vc3 rfl ?yc3 hSd ?_
          case yc3=>exact zzR1
          try simp only[qA,List.getElem_toArray,List.getElem_cons_zero,List.getElem_cons_succ]
          refine qU 4 ?vc4 rfl ?yc4 hSd ?_
          case yc4=>exact zzR1
          try simp only[qA,List.getElem_toArray,List.getElem_cons_zero,List.getElem_cons_succ]
          refine qU 5 ?vc5 rfl ?yc5 hSd ?_
          case yc5=>exact zzR1
          try simp only[qA,List.getElem_toArray,List.getElem_cons_zero,List.getElem_cons_succ]
          refine qU 6 ?vc6 rfl ?yc6 hSd ?_
          case yc6=>exact zzR1
          try simp only[qA,List.getElem_toArray,List.getElem_cons_zero,List.getElem_cons_succ]
          refine qU 7 ?vc7 rfl ?yc7 hSd ?_
          case yc7=>exact zzR1
          try simp only[qA,List.getElem_toArray,List.getElem_cons_zero,List.getElem_cons_succ]
          refine qU 8 ?vc8 rfl ?yc8 hSd ?_
          case yc8=>exact zzR1
          try simp only[qA,List.getElem_toArray,List.getElem_cons_zero,List.getElem_cons_succ]
          refine qU 9 ?vc9 rfl ?yc9 hSd ?_
          case yc9=>exact zzR1
          try simp only[qA,List.getElem_toArray,List.getElem_cons_zero,List.getElem_cons_succ]
          refine qU 10 ?vc10 rfl ?yc10 hSd ?_
          case yc10=>exact zzR1
          try simp only[qA,List.getElem_toArray,List.getElem_cons_zero,List.getElem_cons_succ]
          refine qU 11 ?vc11 rfl ?yc11 hSd ?_
          case yc11=>exact zzR1
          try simp only[qA,List.getElem_toArray,List.getElem_cons_zero,List.getElem_cons_succ]
          refine qU 12 ?vc12 rfl ?yc12 hSd ?_
          case yc12=>exact zzR1
          try simp only[qA,List.getElem_toArray,List.getElem_cons_zero,List.getElem_cons_succ]
          refine qU 13 ?vc13 rfl ?yc13 hSd ?_
          case yc13=>exact zzR1
          try simp only[qA,List.getElem_toArray,List.getElem_cons_zero,List.getElem_cons_succ]
          refine qU 14 ?vc14 rfl ?yc14 hSd ?_
          case yc14=>exact zzR1
          try simp only[qA,List.getElem_toArray,List.getElem_cons_zero,List.getElem_cons_succ]
          refine qU 15 (.bool true) rfl ?yc15 hSd ?_
          case yc15=>exact zzR20
          try simp only[qA,List.getElem_toArray,List.getElem_cons_zero,List.getElem_cons_succ]
          refine qU 16 ?vc16 rfl ?yc16 hSd ?_
          case yc16=>exact zzR1
          try simp only[qA,List.getElem_toArray,List.getElem_cons_zero,List.getElem_cons_succ]
          refine qU 17 ?vc17 rfl ?yc17 hSd ?_
          case yc17=>exact zzR1
          try simp only[qA,List.getElem_toArray,List.getElem_cons_zero,List.getElem_cons_succ]
          refine qU 18 ?vc18 rfl ?yc18 hSd ?_
          case yc18=>exact zzR1
          try simp only[qA,List.getElem_toArray,List.getElem_cons_zero,List.getElem_cons_succ]
          refine qU 19 (.bool false) rfl ?yc19 hSd ?_
          case yc19=>exact zzR23
          try simp only[qA,List.getElem_toArray,List.getElem_cons_zero,List.getElem_cons_succ]
          refine qU 20 ?vc20 rfl ?yc20 hSd ?_
          case yc20=>exact zzR1
          try simp only[qA,List.getElem_toArray,List.getElem_cons_zero,List.getElem_cons_succ]
          refine qU 21 ?vc21 rfl ?yc21 hSd ?_
          case yc21=>exact zzR1
          try simp only[qA,List.getElem_toArray,List.getElem_cons_zero,List.getElem_cons_succ]
          refine anyT_take (i:=22) (v:=undef) rfl (by kernel_rfl) (by kernel_rfl) (by kernel_rfl) (by kernel_rfl) (by decide) (fun _ _ _ h=>h) (Or.inr ⟨by rfl,rfl⟩) hSd ?_
          try simp only[qA,List.getElem_toArray,List.getElem_cons_zero,List.getElem_cons_succ]
          refine anyT_take (i:=23) (v:=undef) rfl (by kernel_rfl) (by kernel_rfl) (by kernel_rfl) (by kernel_rfl) (by decide) (fun _ _ _ h=>h) (Or.inr ⟨by rfl,rfl⟩) hSd ?_
          try simp only[qA,List.getElem_toArray,List.getElem_cons_zero,List.getElem_cons_succ]
          refine anyT_take (i:=24) (v:=undef) rfl (by kernel_rfl) (by kernel_rfl) (by kernel_rfl) (by kernel_rfl) (by decide) (fun _ _ _ h=>h) (Or.inr ⟨by rfl,rfl⟩) hSd ?_
          try simp only[qA,List.getElem_toArray,List.getElem_cons_zero,List.getElem_cons_succ]
          refine anyT_take (i:=25) (v:=undef) rfl (by kernel_rfl) (by kernel_rfl) (by kernel_rfl) (by kernel_rfl) (by decide) (fun _ _ _ h=>h) (Or.inr ⟨by rfl,rfl⟩) hSd ?_
          try simp only[qA,List.getElem_toArray,List.getElem_cons_zero,List.getElem_cons_succ]
          refine anyT_take (i:=26) (v:=undef) rfl (by kernel_rfl) (by kernel_rfl) (by kernel_rfl) (by kernel_rfl) (by decide) (fun _ _ _ h=>h) (Or.inr ⟨by rfl,rfl⟩) hSd ?_
          try simp only[qA,List.getElem_toArray,List.getElem_cons_zero,List.getElem_cons_succ]
          refine anyT_take (i:=27) (v:=undef) rfl (by kernel_rfl) (by kernel_rfl) (by kernel_rfl) (by kernel_rfl) (by decide) (fun _ _ _ h=>h) (Or.inr ⟨by rfl,rfl⟩) hSd ?_
          try simp only[qA,List.getElem_toArray,List.getElem_cons_zero,List.getElem_cons_succ]
          refine anyT_take (i:=28) (v:=undef) rfl (by kernel_rfl) (by kernel_rfl) (by kernel_rfl) (by kernel_rfl) (by decide) (fun _ _ _ h=>h) (Or.inr ⟨by rfl,rfl⟩) hSd ?_
          try simp only[qA,List.getElem_toArray,List.getElem_cons_zero,List.getElem_cons_succ]
          refine qU 29 ?vc29 rfl ?yc29 hSd ?_
          case yc29=>exact zzR1
          try simp only[qA,List.getElem_toArray,List.getElem_cons_zero,List.getElem_cons_succ]
          refine qU 30 ?vc30 rfl ?yc30 hSd ?_
          case yc30=>exact zzR1
          try simp only[qA,List.getElem_toArray,List.getElem_cons_zero,List.getElem_cons_succ]
          refine anyT_take (i:=31) (v:=undef) rfl (by kernel_rfl) (by kernel_rfl) (by kernel_rfl) (by kernel_rfl) (by decide) (fun _ _ _ h=>h) (Or.inr ⟨by rfl,rfl⟩) hSd ?_
          try simp only[qA,List.getElem_toArray,List.getElem_cons_zero,List.getElem_cons_succ]
          refine anyT_take (i:=32) (v:=undef) rfl (by kernel_rfl) (by kernel_rfl) (by kernel_rfl) (by kernel_rfl) (by decide) (fun _ _ _ h=>h) (Or.inr ⟨by rfl,rfl⟩) hSd ?_
          try simp only[qA,List.getElem_toArray,List.getElem_cons_zero,List.getElem_cons_succ]
          refine anyT_take (i:=33) (v:=undef) rfl (by kernel_rfl) (by kernel_rfl) (by kernel_rfl) (by kernel_rfl) (by decide) (fun _ _ _ h=>h) (Or.inr ⟨by rfl,rfl⟩) hSd ?_
          try simp only[qA,List.getElem_toArray,List.getElem_cons_zero,List.getElem_cons_succ]
          refine anyT_take (i:=34) (v:=undef) rfl (by kernel_rfl) (by kernel_rfl) (by kernel_rfl) (by kernel_rfl) (by decide) (fun _ _ _ h=>h) (Or.inr ⟨by rfl,rfl⟩) hSd ?_
          try simp only[qA,List.getElem_toArray,List.getElem_cons_zero,List.getElem_cons_succ]
          refine anyT_take (i:=35) (v:=undef) rfl (by kernel_rfl) (by kernel_rfl) (by kernel_rfl) (by kernel_rfl) (by decide) (fun _ _ _ h=>h) (Or.inr ⟨by rfl,rfl⟩) hSd ?_
          try simp only[qA,List.getElem_toArray,List.getElem_cons_zero,List.getElem_cons_succ]
          refine anyT_take (i:=36) (v:=undef) rfl (by kernel_rfl) (by kernel_rfl) (by kernel_rfl) (by kernel_rfl) (by decide) (fun _ _ _ h=>h) (Or.inr ⟨by rfl,rfl⟩) hSd ?_
          try simp only[qA,List.getElem_toArray,List.getElem_cons_zero,List.getElem_cons_succ]
          refine anyT_take (i:=37) (v:=undef) rfl (by kernel_rfl) (by kernel_rfl) (by kernel_rfl) (by kernel_rfl) (by decide) (fun _ _ _ h=>h) (Or.inr ⟨by rfl,rfl⟩) hSd ?_
          try simp only[qA,List.getElem_toArray,List.getElem_cons_zero,List.getElem_cons_succ]
          refine qU 38 ?vc38 rfl ?yc38 hSd ?_
          case yc38=>exact zzR1
          try simp only[qA,List.getElem_toArray,List.getElem_cons_zero,List.getElem_cons_succ]
          refine qU 39 ?vc39 rfl ?yc39 hSd ?_
          case yc39=>exact zzR1
          exact zzQ17
        ·have hd1:decide ((i:Int)≤(k:Int))=false:=by simp;omega
         have hSd:(fun w':World=>w'.cell? ⟨g,i,none⟩=some (slV (ρ i) (n+1) (γ i))∧w'.cell? ⟨go,i,none⟩=some (slV (ρo i) (n+1) (γo i))∧w'.cell? ⟨ρo i,j,none⟩=some (.bool false)∧w'.cell? ⟨ρo i,k,none⟩=some (.bool ikv)∧w'.cell? ⟨go,k,none⟩=some (slV (ρo k) (n+1) (γo k))∧w'.cell? ⟨ρo k,j,none⟩=some (.bool kjv)) wr.drew:=⟨c0,a0,a1,a2,a3,a4⟩
         refine wp_region_T 41 (fun w':World=>w'.cell? ⟨g,i,none⟩=some (slV (ρ i) (n+1) (γ i))∧w'.cell? ⟨go,i,none⟩=some (slV (ρo i) (n+1) (γo i))∧w'.cell? ⟨ρo i,j,none⟩=some (.bool false)∧w'.cell? ⟨ρo i,k,none⟩=some (.bool ikv)∧w'.cell? ⟨go,k,none⟩=some (slV (ρo k) (n+1) (γo k))∧w'.cell? ⟨ρo k,j,none⟩=some (.bool kjv)) (by kernel_rfl) ?_
         refine qU 0 ?vb0 rfl ?yb0 hSd ?_
         case yb0=>exact zzR1
         try simp only[qA,List.getElem_toArray,List.getElem_cons_zero,List.getElem_cons_succ]
         refine qU 1 ?vb1 rfl ?yb1 hSd ?_
         case yb1=>exact zzR1
         try simp only[qA,List.getElem_toArray,List.getElem_cons_zero,List.getElem_cons_succ]
         refine qU 2 ?vb2 rfl ?yb2 hSd ?_
         case yb2=>exact zzR1
         try simp only[qA,List.getElem_toArray,List.getElem_cons_zero,List.getElem_cons_succ]
         refine qU 3 ?vb3 rfl ?yb3 hSd ?_
         case yb3=>exact zzR1
         try simp only[qA,List.getElem_toArray,List.getElem_cons_zero,List.getElem_cons_succ]
         refine qU 4 ?vb4 rfl ?yb4 hSd ?_
         case yb4=>exact zzR1
         try simp only[qA,List.getElem_toArray,List.getElem_cons_zero,List.getElem_cons_succ]
         refine qU 5 ?vb5 rfl ?yb5 hSd ?_
         case yb5=>exact zzR1
         try simp only[qA,List.getElem_toArray,List.getElem_cons_zero,List.getElem_cons_succ]
         refine qU 6 ?vb6 rfl ?yb6 hSd ?_
         case yb6=>exact zzR1
         try simp only[qA,List.getElem_toArray,List.getElem_cons_zero,List.getElem_cons_succ]
         refine qU 7 ?vb7 rfl ?yb7 hSd ?_
         case yb7=>exact zzR1
         try simp only[qA,List.getElem_toArray,List.getElem_cons_zero,List.getElem_cons_succ]
         refine qU 8 ?vb8 rfl ?yb8 hSd ?_
         case yb8=>exact zzR1
         try simp only[qA,List.getElem_toArray,List.getElem_cons_zero,List.getElem_cons_succ]
         refine qU 9 ?vb9 rfl ?yb9 hSd ?_
         case yb9=>exact zzR1
         try simp only[qA,List.getElem_toArray,List.getElem_cons_zero,List.getElem_cons_succ]
         refine qU 10 ?vb10 rfl ?yb10 hSd ?_
         case yb10=>exact zzR1
         try simp only[qA,List.getElem_toArray,List.getElem_cons_zero,List.getElem_cons_succ]
         refine qU 11 ?vb11 rfl ?yb11 hSd ?_
         case yb11=>exact zzR1
         try simp only[qA,List.getElem_toArray,List.getElem_cons_zero,List.getElem_cons_succ]
         refine qU 12 ?vb12 rfl ?yb12 hSd ?_
         case yb12=>exact zzR1
         try simp only[qA,List.getElem_toArray,List.getElem_cons_zero,List.getElem_cons_succ]
         refine qU 13 ?vb13 rfl ?yb13 hSd ?_
         case yb13=>exact zzR1
         try simp only[qA,List.getElem_toArray,List.getElem_cons_zero,List.getElem_cons_succ]
         refine qU 14 ?vb14 rfl ?yb14 hSd ?_
         case yb14=>exact zzR1
         try simp only[qA,List.getElem_toArray,List.getElem_cons_zero,List.getElem_cons_succ]
         refine qU 15 (.bool false) rfl ?yb15 hSd ?_
         case yb15=>exact zzR20
         try simp only[qA,List.getElem_toArray,List.getElem_cons_zero,List.getElem_cons_succ]
         refine qU 16 ?vb16 rfl ?yb16 hSd ?_
         case yb16=>exact zzR1
         try simp only[qA,List.getElem_toArray,List.getElem_cons_zero,List.getElem_cons_succ]
         refine anyT_take (i:=17) (v:=undef) rfl (by kernel_rfl) (by kernel_rfl) (by kernel_rfl) (by kernel_rfl) (by decide) (fun _ _ _ h=>h) (Or.inr ⟨by rfl,rfl⟩) hSd ?_
         try simp only[qA,List.getElem_toArray,List.getElem_cons_zero,List.getElem_cons_succ]
         refine anyT_take (i:=18) (v:=undef) rfl (by kernel_rfl) (by kernel_rfl) (by kernel_rfl) (by kernel_rfl) (by decide) (fun _ _ _ h=>h) (Or.inr ⟨by rfl,rfl⟩) hSd ?_
         try simp only[qA,List.getElem_toArray,List.getElem_cons_zero,List.getElem_cons_succ]
         refine anyT_take (i:=19) (v:=undef) rfl (by kernel_rfl) (by kernel_rfl) (by kernel_rfl) (by kernel_rfl) (by decide) (fun _ _ _ h=>h) (Or.inr ⟨by rfl,rfl⟩) hSd ?_
         try simp only[qA,List.getElem_toArray,List.getElem_cons_zero,List.getElem_cons_succ]
         refine qU 20 ?vb20 rfl ?yb20 hSd ?_
         case yb20=>exact zzR1
         try simp only[qA,List.getElem_toArray,List.getElem_cons_zero,List.getElem_cons_succ]
         refine qU 21 ?vb21 rfl ?yb21 hSd ?_
         case yb21=>exact zzR1
         try simp only[qA,List.getElem_toArray,List.getElem_cons_zero,List.getElem_cons_succ]
         refine anyT_take (i:=22) (v:=undef) rfl (by kernel_rfl) (by kernel_rfl) (by kernel_rfl) (by kernel_rfl) (by decide) (fun _ _ _ h=>h) (Or.inr ⟨by rfl,rfl⟩) hSd ?_
         try simp only[qA,List.getElem_toArray,List.getElem_cons_zero,List.getElem_cons_succ]
         refine anyT_take (i:=23) (v:=undef) rfl (by kernel_rfl) (by kernel_rfl) (by kernel_rfl) (by kernel_rfl) (by decide) (fun _ _ _ h=>h) (Or.inr ⟨by rfl,rfl⟩) hSd ?_
         try simp only[qA,List.getElem_toArray,List.getElem_cons_zero,List.getElem_cons_succ]
         refine anyT_take (i:=24) (v:=undef) rfl (by kernel_rfl) (by kernel_rfl) (by kernel_rfl) (by kernel_rfl) (by decide) (fun _ _ _ h=>h) (Or.inr ⟨by rfl,rfl⟩) hSd ?_
         try simp only[qA,List.getElem_toArray,List.getElem_cons_zero,List.getElem_cons_succ]
         refine anyT_take (i:=25) (v:=undef) rfl (by kernel_rfl) (by kernel_rfl) (by kernel_rfl) (by kernel_rfl) (by decide) (fun _ _ _ h=>h) (Or.inr ⟨by rfl,rfl⟩) hSd ?_
         try simp only[qA,List.getElem_toArray,List.getElem_cons_zero,List.getElem_cons_succ]
         refine anyT_take (i:=26) (v:=undef) rfl (by kernel_rfl) (by kernel_rfl) (by kernel_rfl) (by kernel_rfl) (by decide) (fun _ _ _ h=>h) (Or.inr ⟨by rfl,rfl⟩) hSd ?_
         try simp only[qA,List.getElem_toArray,List.getElem_cons_zero,List.getElem_cons_succ]
         refine anyT_take (i:=27) (v:=undef) rfl (by kernel_rfl) (by kernel_rfl) (by kernel_rfl) (by kernel_rfl) (by decide) (fun _ _ _ h=>h) (Or.inr ⟨by rfl,rfl⟩) hSd ?_
         try simp only[qA,List.getElem_toArray,List.getElem_cons_zero,List.getElem_cons_succ]
         refine anyT_take (i:=28) (v:=undef) rfl (by kernel_rfl) (by kernel_rfl) (by kernel_rfl) (by kernel_rfl) (by decide) (fun _ _ _ h=>h) (Or.inr ⟨by rfl,rfl⟩) hSd ?_
         try simp only[qA,List.getElem_toArray,List.getElem_cons_zero,List.getElem_cons_succ]
         refine qU 29 ?vb29 rfl ?yb29 hSd ?_
         case yb29=>exact zzR1
         try simp only[qA,List.getElem_toArray,List.getElem_cons_zero,List.getElem_cons_succ]
         refine qU 30 ?vb30 rfl ?yb30 hSd ?_
         case yb30=>exact zzR1
         try simp only[qA,List.getElem_toArray,List.getElem_cons_zero,List.getElem_cons_succ]
         refine anyT_take (i:=31) (v:=undef) rfl (by kernel_rfl) (by kernel_rfl) (by kernel_rfl) (by kernel_rfl) (by decide) (fun _ _ _ h=>h) (Or.inr ⟨by rfl,rfl⟩) hSd ?_
         try simp only[qA,List.getElem_toArray,List.getElem_cons_zero,List.getElem_cons_succ]
         refine anyT_take (i:=32) (v:=undef) rfl (by kernel_rfl) (by kernel_rfl) (by kernel_rfl) (by kernel_rfl) (by decide) (fun _ _ _ h=>h) (Or.inr ⟨by rfl,rfl⟩) hSd ?_
         try simp only[qA,List.getElem_toArray,List.getElem_cons_zero,List.getElem_cons_succ]
         refine anyT_take (i:=33) (v:=undef) rfl (by kernel_rfl) (by kernel_rfl) (by kernel_rfl) (by kernel_rfl) (by decide) (fun _ _ _ h=>h) (Or.inr ⟨by rfl,rfl⟩) hSd ?_
         try simp only[qA,List.getElem_toArray,List.getElem_cons_zero,List.getElem_cons_succ]
         refine anyT_take (i:=34) (v:=undef) rfl (by kernel_rfl) (by kernel_rfl) (by kernel_rfl) (by kernel_rfl) (by decide) (fun _ _ _ h=>h) (Or.inr ⟨by rfl,rfl⟩) hSd ?_
         try simp only[qA,List.getElem_toArray,List.getElem_cons_zero,List.getElem_cons_succ]
         refine anyT_take (i:=35) (v:=undef) rfl (by kernel_rfl) (by kernel_rfl) (by kernel_rfl) (by kernel_rfl) (by decide) (fun _ _ _ h=>h) (Or.inr ⟨by rfl,rfl⟩) hSd ?_
         try simp only[qA,List.getElem_toArray,List.getElem_cons_zero,List.getElem_cons_succ]
         refine anyT_take (i:=36) (v:=undef) rfl (by kernel_rfl) (by kernel_rfl) (by kernel_rfl) (by kernel_rfl) (by decide) (fun _ _ _ h=>h) (Or.inr ⟨by rfl,rfl⟩) hSd ?_
         try simp only[qA,List.getElem_toArray,List.getElem_cons_zero,List.getElem_cons_succ]
         refine anyT_take (i:=37) (v:=undef) rfl (by kernel_rfl) (by kernel_rfl) (by kernel_rfl) (by kernel_rfl) (by decide) (fun _ _ _ h=>h) (Or.inr ⟨by rfl,rfl⟩) hSd ?_
         try simp only[qA,List.getElem_toArray,List.getElem_cons_zero,List.getElem_cons_succ]
         refine qU 38 ?vb38 rfl ?yb38 hSd ?_
         case yb38=>exact zzR1
         try simp only[qA,List.getElem_toArray,List.getElem_cons_zero,List.getElem_cons_succ]
         refine qU 39 ?vb39 rfl ?yb39 hSd ?_
         case yb39=>exact zzR1
         try simp only[qA,List.getElem_toArray,List.getElem_cons_zero,List.getElem_cons_succ]
         refine qO 40 rfl fun K hK=>?_
         go_simp
         refine hK.out _ _ (.inr hSd) ?_
         clear hK
         try simp only[qA,List.getElem_toArray,List.getElem_cons_zero,List.getElem_cons_succ]
         refine qO 41 rfl fun K hK=>?_
         go_simp
         refine hK.out _ _ (.inl rfl) ?_
         clear hK
         try simp only[qA,List.getElem_toArray,List.getElem_cons_zero,List.getElem_cons_succ]
         refine qD ?_
         have HJ3:=HJ2.out false (by have h1:=HV.1;have h2:=HV.2.1;have h3:=HV.2.2;unfold viaF;rw[h1,h2,h3];simp[hik])
         go_wp2_with fail
         go_roundw
         case rel=>first|exact⟨j+1,by omega,by omega,by go_num,upd2 f i j false,HJ3⟩|exact⟨j+1,upd2 f i j false,by omega,by omega,by go_num,HJ3⟩
         case measure=>simp[intOf];omega
      ·obtain rfl:j=n+1:=by omega
       have zj:¬((n+1:Nat):Int)<((n+1:Nat):Int):=by omega
       have HJ2:Hid (MatO wr Wk.heap.size g cp (n+1) (n+1) ρ γ f∧(∀x y,x≤y→y<n+1→f x y=orF fo (viaF fo k) (i+1) 0 x y)∧Below Wk.heap.size Wk wr):=by
        refine⟨HJ.1,fun x y hxy hy=>?_,HJ.2.2⟩
        rw[HJ.2.1 x y hxy hy]
        unfold orF
        congr 1
        rw[Bool.eq_iff_iff];simp only[Bool.or_eq_true,Bool.and_eq_true,decide_eq_true_eq,beq_iff_eq];omega
       go_wp2_with fail
       go_roundw
       case rel=>first|exact⟨i+1,f,by omega,by go_num,HJ2.out⟩|exact⟨i+1,by omega,by go_num,f,HJ2.out⟩
       case measure=>simp[intOf];omega
    ·obtain rfl:i=n+1:=by omega
     have zi:¬((n+1:Nat):Int)<((n+1:Nat):Int):=by omega
     have HO2:Hid (MatR Wr g (n+1) ρ γ f0∧(∀x y,x≤y→y<n+1→f0 x y=plK fa (k+1) x y)∧Below w.heap.size w Wr):=by
      refine⟨HJ0.1.read,fun x y hxy hy=>?_,HO.2.2.trans (HJ0.2.2.mono HO.2.2.size)⟩
      rw[HJ0.2.1 x y hxy hy]
      have hx:x<n+1:=by omega
      simp only[orF,viaF,plK,hx,decide_true,Bool.true_or,Bool.and_true]
      rw[HO.2.1 x y hxy hy]
      by_cases h1:x≤k
      ·by_cases h2:k≤y
       ·rw[HO.2.1 x k h1 hlk,HO.2.1 k y h2 hy]
       ·simp[h2]
      ·simp[h1]
     go_wp2_with fail
     go_roundw
     case rel=>first|exact⟨k+1,g,cp,ρ,γ,f0,by omega,by go_num,rfl,hcp.1,HO2.out⟩|exact⟨k+1,by omega,by go_num,g,cp,rfl,hcp.1,ρ,γ,f0,HO2.out⟩|exact⟨k+1,g,cp,by omega,by go_num,rfl,hcp.1,ρ,γ,f0,HO2.out⟩
     case measure=>simp[intOf];omega
  ·obtain rfl:k=n+1:=by omega
   have zk:¬((n+1:Nat):Int)<((n+1:Nat):Int):=by omega
   go_wp2_with fail
   go_ret
   exact⟨go,co,ρo,γo,fo,rfl,hco,⟨HO.1,HO.2.1⟩,HO.2.2⟩
end Go.Proofs.YtkidabedcgngcaaGreatDoor
namespace Go.Proofs.YtkidabedcgngcaaGreatDoor
set_option linter.unusedVariables false
set_option linter.unusedSimpArgs false
inductive Ch (fa:Nat→Nat→Bool) (K:Nat):Nat→Nat→Prop
 |one {i j:Nat} (h:fa i j=true) (hij:i≤j):Ch fa K i j
 |more {i m j:Nat} (h:fa i m=true) (him:i≤m) (hm:m<K) (k:Ch fa K m j):Ch fa K i j
theorem Ch.le {fa:Nat→Nat→Bool} {K i j:Nat} (h:Ch fa K i j):i≤j:=by
 induction h with
 |one _ h=>exact h
 |more _ h _ _ ih=>omega
theorem Ch.mono {fa:Nat→Nat→Bool} {K K' i j:Nat} (h:Ch fa K i j) (hK:K≤K'):Ch fa K' i j:=by
 induction h with
 |one h h'=>exact .one h h'
 |more h h1 h2 _ ih=>exact .more h h1 (by omega) ih
theorem Ch.cat {fa:Nat→Nat→Bool} {K i m j:Nat} (h:Ch fa K i m) (hm:m<K) (k:Ch fa K m j):Ch fa K i j:=by
 induction h with
 |one h h'=>exact .more h h' hm k
 |more h h1 h2 _ ih=>exact .more h h1 h2 (ih hm k)
theorem Ch.split {fa:Nat→Nat→Bool} {K i j:Nat} (h:Ch fa (K+1) i j):Ch fa K i j∨(Ch fa K i K∧Ch fa K K j):=by
 induction h with
 |one h h'=>exact .inl (.one h h')
 | @more i m j h h1 h2 _ ih=>
   by_cases e:m=K
   ·subst e
    rcases ih with k|⟨_,k⟩
    ·exact .inr ⟨.one h h1,k⟩
    ·exact .inr ⟨.one h h1,k⟩
   ·rcases ih with k|⟨k1,k2⟩
    ·exact .inl (.more h h1 (by omega) k)
    ·exact .inr ⟨.more h h1 (by omega) k1,k2⟩
theorem plK_iff (fa:Nat→Nat→Bool):∀(K i j:Nat),i≤j→(plK fa K i j=true↔Ch fa K i j)
 |0,i,j,hij=>by
  constructor
  ·exact fun h=>.one h hij
  ·intro h
   cases h with
   |one h _=>exact h
   |more _ _ h _=>omega
 |K+1,i,j,hij=>by
  simp only[plK,Bool.or_eq_true,Bool.and_eq_true,decide_eq_true_eq]
  constructor
  ·rintro(h|⟨⟨⟨h1,h2⟩,h3⟩,h4⟩)
   ·exact((plK_iff fa K i j hij).1 h).mono (by omega)
   ·exact(((plK_iff fa K i K h1).1 h3).mono (by omega)).cat (by omega) (((plK_iff fa K K j h2).1 h4).mono (by omega))
  ·intro h
   rcases h.split with k|⟨k1,k2⟩
   ·exact .inl ((plK_iff fa K i j hij).2 k)
   ·exact .inr ⟨⟨⟨k1.le,k2.le⟩,(plK_iff fa K i K k1.le).2 k1⟩,(plK_iff fa K K j k2.le).2 k2⟩
def RelW (s:List UInt8) (f:Nat→Nat→Bool) (P:List UInt8→Prop):Prop:=∀i j,i≤j→j≤s.length→(f i j=true↔P (cut s i j))
theorem cut_split {s:List UInt8} {i j:Nat} {x y:List UInt8} (hij:i≤j) (hj:j≤s.length) (h:cut s i j=x++y):∃m,i≤m∧m≤j∧x=cut s i m∧y=cut s m j:=by
 obtain⟨h1,h2,h3⟩:=cutTwo h hj hij
 exact⟨i+x.length,by omega,h3,h1.symm,h2.symm⟩
theorem RelW.plus {s:List UInt8} {fa:Nat→Nat→Bool} {P:List UInt8→Prop} (h:RelW s fa P):RelW s (plK fa (s.length+1)) (Pls P):=by
 intro i j hij hj
 rw[plK_iff fa _ i j hij]
 constructor
 ·intro k
  induction k with
  |one h' h1=>exact .one ((h _ _ h1 hj).1 h')
  | @more i m j h' h1 h2 k ih=>
    have hmj:=k.le
    rw[cut_cat h1 hmj]
    exact .more ((h i m h1 (by omega)).1 h') (ih hmj hj)
 ·intro k
  generalize hx:cut s i j=x at k
  induction k generalizing i j with
  |one h'=>subst hx;exact .one ((h i j hij hj).2 h') hij
  |more h' k ih=>
   obtain⟨m,h1,h2,h3,h4⟩:=cut_split hij hj hx
   exact .more ((h i m h1 (by omega)).2 (by rw[←h3];exact h')) h1 (by omega) (ih m j h2 hj h4.symm)
theorem RelW.or {s:List UInt8} {fa fb:Nat→Nat→Bool} {P Q:List UInt8→Prop} (h:RelW s fa P) (k:RelW s fb Q):RelW s (fun i j=>fa i j || fb i j) (fun x=>P x∨Q x):=by
 intro i j hij hj
 rw[Bool.or_eq_true,h i j hij hj,k i j hij hj]
theorem relW_empty (s:List UInt8):RelW s (fun i j=>i==j) (fun x=>x= []):=by
 intro i j hij hj
 rw[beq_iff_eq]
 constructor
 ·intro e;rw[e];exact cut_nil s j
 ·intro e
  have:=cut_len (p:=s) (i:=i) hj
  rw[e]at this
  simp at this
  omega
theorem RelW.then {s:List UInt8} {fa fb:Nat→Nat→Bool} {P Q:List UInt8→Prop} (h:RelW s fa P) (k:RelW s fb Q):RelW s (fun i j=>thF fa fb i j (s.length+1)) (fun x=>∃y z,x=y++z∧P y∧Q z):=by
 intro i j hij hj
 rw[thF_iff]
 constructor
 ·rintro⟨m,h0,h1,h2,h3,h4⟩
  exact⟨cut s i m,cut s m j,cut_cat h1 h2,(h i m h1 (by omega)).1 h3,(k m j h2 hj).1 h4⟩
 ·rintro⟨y,z,hx,hy,hz⟩
  obtain⟨m,h1,h2,h3,h4⟩:=cut_split hij hj hx
  exact⟨m,by omega,h1,h2,(h i m h1 (by omega)).2 (by rw[←h3];exact hy),(k m j h2 hj).2 (by rw[←h4];exact hz)⟩
theorem RelW.iff {s:List UInt8} {f g:Nat→Nat→Bool} {P Q:List UInt8→Prop} (h:RelW s f P) (hf:∀i j,i≤j→j<s.length+1→g i j=f i j) (hp:∀x,Q x↔P x):RelW s g Q:=by
 intro i j hij hj
 rw[hf i j hij (by omega),h i j hij hj,hp]
theorem Pls.mono {P Q:List UInt8→Prop} (h:∀x,P x→Q x) {x:List UInt8} (k:Pls P x):Pls Q x:=by
 induction k with
 |one k=>exact .one (h _ k)
 |more k _ ih=>exact .more (h _ k) ih
theorem Pls.cat {P:List UInt8→Prop} {x y:List UInt8} (h:Pls P x) (k:Pls P y):Pls P (x++y):=by
 induction h with
 |one h=>exact .more h k
 |more h _ ih=>rw[List.append_assoc];exact .more h ih
theorem sign_plus (P:List UInt8→Prop) (o r:Bool) (x:List UInt8):Pls (RepL P o r) x↔RepL P o true x:=by
 have hsub:∀y,RepL P o r y→RepL P o true y:=by
  intro y h
  rcases h with h|h
  ·exact .inl h
  ·refine .inr ?_
   rw[if_pos rfl]
   cases r with
   |true=>rw[if_pos rfl]at h;exact h
   |false=>rw[if_neg (by decide)]at h;exact .one h
 constructor
 ·intro k
  induction k with
  |one h=>exact hsub _ h
  | @more y z h k ih=>
    rcases hsub y h with⟨ho,hy⟩|hy
    ·rw[hy];exact ih
    ·rcases ih with⟨ho,hz⟩|hz
     ·rw[hz,List.append_nil];exact .inr hy
     ·rw[if_pos rfl]at hy hz
      exact .inr (by rw[if_pos rfl];exact hy.cat hz)
 ·rintro(h|h)
  ·exact .one (.inl h)
  ·rw[if_pos rfl]at h
   exact h.mono (fun y hy=>.inr (by
    cases r with
    |true=>rw[if_pos rfl];exact .one hy
    |false=>rw[if_neg (by decide)];exact hy))
theorem sign_opt (P:List UInt8→Prop) (o r:Bool) (x:List UInt8):(RepL P o r x∨x= [])↔RepL P true r x:=by
 constructor
 ·rintro((⟨_,h⟩|h)|h)
  ·exact .inl ⟨rfl,h⟩
  ·exact .inr h
  ·exact .inl ⟨rfl,h⟩
 ·rintro(⟨_,h⟩|h)
  ·exact .inr h
  ·exact .inl (.inr h)
end Go.Proofs.YtkidabedcgngcaaGreatDoor
namespace Go.Proofs.YtkidabedcgngcaaGreatDoor
open Go.ChangeShapes Go.WideShapes Go.ChangeAt Go.RowKit Go.Deep
set_option linter.unusedVariables false
set_option linter.unusedSimpArgs false
set_option maxRecDepth 100000
theorem clsM_lt {p:List UInt8} {j:Nat} {b:Bool} {f g:UInt8→Bool} {k:Nat} (h:clsM p j b f=.inl (g,k)):j<p.length:=by
 unfold clsM at h
 split at h
 ·assumption
 ·cases h
theorem hold_step {p:List UInt8} {j:Nat} {it:Bool} {g f:UInt8→Bool} {n:Nat} (h:clsM p j it g=.inl (f,n)):
  (p[j]?=some 93∧it=true∧g=f∧j+1=n)∨
  ∃x lo k1,p[j]?=some x∧¬x=93∧chM p j=(lo,k1,true)∧k1<p.length∧∃y,p[k1]?=some y∧
   ((y=45∧∃hi m,chM p (k1+1)=(hi,m,true)∧clsM p m true (fun c=>g c || (decide (lo≤c) && decide (c≤hi)))=.inl (f,n))∨
    (¬y=45∧clsM p k1 true (fun c=>g c || (decide (lo≤c) && decide (c≤lo)))=.inl (f,n))):=by
 have hj:=clsM_lt h
 unfold clsM at h
 rw[dif_pos hj]at h
 split at h
 ·next hc=>
  simp only[Sum.inl.injEq,Prod.mk.injEq]at h
  exact .inl ⟨hc.1,hc.2,h.1,h.2⟩
 ·split at h
  ·cases h
  ·next a b k hk=>
   refine .inr ?_
   obtain⟨x,hx⟩:∃x,p[j]?=some x:=⟨_,List.getElem?_eq_getElem hj⟩
   unfold itemM at hk
   split at hk
   ·cases hk
   ·next lo k1 hch=>
    have hx93:¬x=93:=fun q=>by
     unfold chM at hch
     rw[hx]at hch
     simp[q]at hch
    split at hk
    ·next h45=>
     split at hk
     ·cases hk
     ·next hi m hch2=>
      split at hk
      ·cases hk
      ·simp only[Sum.inl.injEq,Prod.mk.injEq]at hk
       obtain⟨rfl,rfl,rfl⟩:=hk
       exact⟨x,lo,k1,hx,hx93,hch,lt_of_at h45,45,h45,.inl ⟨rfl,hi,m,hch2,h⟩⟩
    ·next h45=>
     simp only[Sum.inl.injEq,Prod.mk.injEq]at hk
     obtain⟨rfl,rfl,rfl⟩:=hk
     have hk1:=clsM_lt h
     obtain⟨y,hy⟩:∃y,p[k1]?=some y:=⟨_,List.getElem?_eq_getElem hk1⟩
     exact⟨x,lo,k1,hx,hx93,hch,hk1,y,hy,.inr ⟨fun q=>h45 (by rw[hy,q]),h⟩⟩
set_option maxHeartbeats 16000000 in
theorem l4Holds_core (q:ByteArray) (hq:q.size≤200) (b:UInt8) (f:UInt8→Bool) (h:classM (sb q) 1=.inl (f,q.size)) (w:World):Calls Tryz.prog 185 #[.string q,.int .u8 (b.toNat:Int)] w fun e w'=>e=.returned (.bool (f b))∧w'=w:=by
 obtain⟨ng,f0,j0,hj0,hc0,hf,hng⟩:∃(ng:Bool) (f0:UInt8→Bool) (j0:Nat),j0=(if ng=true then 2 else 1)∧clsM (sb q) j0 false (fun _=>false)=.inl (f0,q.size)∧(∀c,f c=(f0 c != ng))∧(ng=true↔(sb q)[1]?=some 94):=by
  unfold classM at h
  split at h
  ·next h94=>
   split at h
   ·next g k hk=>
    simp only[Sum.inl.injEq,Prod.mk.injEq]at h
    obtain⟨rfl,rfl⟩:=h
    exact⟨true,g,2,rfl,hk,fun c=>by show(!g c)=(g c != true);cases g c<;>rfl,⟨fun _=>h94,fun _=>rfl⟩⟩
   ·cases h
  ·next h94=>exact⟨false,f,1,rfl,h,fun c=>by cases f c<;>rfl,⟨fun q=>(by cases q),fun q=>absurd q h94⟩⟩
 have hjl:=clsM_lt hc0
 rw[sb_len]at hjl
 have h1l:1<q.size:=by
  cases ng
  ·simp at hj0;omega
  ·have:=lt_of_at (hng.1 rfl);rw[sb_len]at this;exact this
 obtain⟨x1,hx1⟩:∃x,(sb q)[1]?=some x:=⟨_,List.getElem?_eq_getElem (by rw[sb_len];exact h1l)⟩
 obtain⟨_,gx1⟩:=sb_get hx1
 have HC0:Hid (clsM (sb q) j0 false (fun _=>false)=.inl (f0,q.size)):=hc0
 have HFn:Hid (∀c,f c=(f0 c != ng)):=hf
 have z1:(1:Int)<(q.size:Int):=by omega
 clear h hc0 hf
 cases ng
 case false=>
  have z94:((x1.toNat:Int)==94)=false:=beq_eq_false_iff_ne.2 (ne_u8 (c:=94) (fun q=>by have h1:=hng.2 (by rw[hx1,q]);cases h1))
  obtain rfl:j0=1:=by simpa using hj0
  exact zzQ4
 case true=>
  have z94:((x1.toNat:Int)==94)=true:=by
   have h1:=hng.1 rfl
   rw[hx1]at h1
   cases h1
   rfl
  obtain rfl:j0=2:=by simpa using hj0
  exact zzQ4
def MxG (s:ByteArray) (P:List UInt8→Prop) (w:World) (r:Ending) (w':World):Prop:=∃g cp ρ γ f,r=.returned (slV g (s.size+1) cp)∧s.size+1≤cp∧Hid (MatR w' g (s.size+1) ρ γ f∧RelW (sb s) f P)∧Below w.heap.size w w'
theorem MaG.says {s:ByteArray} {F:Nat→Nat→Bool} {P:List UInt8→Prop} {w w':World} {r:Ending} (h:MaG (s.size+1) F w r w') (hF:RelW (sb s) F P):MxG s P w r w':=by
 obtain⟨g,cp,ρ,γ,f,h1,h2,h3,h4⟩:=h
 exact⟨g,cp,ρ,γ,f,h1,h2,⟨h3.out.1,hF.iff (fun i j hij hj=>h3.out.2 i j hij (by rw[sb_len]at hj;exact hj)) (fun _=>Iff.rfl)⟩,h4⟩
def AltW (s:ByteArray) (m:Nat):Prop:=∀(n:Nat) (os:List (List Pat)) (p:ByteArray) (w:World),p.size≤m→p.size≤200→AltG (AtomG n) os (sb p)→Calls Tryz.prog 163 #[.string p,.string s] w (MxG s (LgA os) w)
def SeqW (s:ByteArray) (m:Nat):Prop:=∀(n:Nat) (ts:List Pat) (p:ByteArray) (w:World),p.size≤m→p.size≤200→SeqG (AtomG n) ts (sb p)→Calls Tryz.prog 171 #[.string p,.string s] w (MxG s (LgS ts) w)
def AtmW (s:ByteArray) (m:Nat):Prop:=∀(n:Nat) (t:Pat) (p:ByteArray) (w:World),p.size≤m→p.size≤200→AtomG n (sb p) t→Calls Tryz.prog 178 #[.string p,.string s] w (MxG s (Lg t) w)
theorem LgA_snoc (os:List (List Pat)) (ts:List Pat) (x:List UInt8):LgA (os++ [ts]) x↔LgA os x∨LgS ts x:=by
 rw[LgA_mem,LgA_mem]
 constructor
 ·rintro⟨t,ht,h⟩
  rcases List.mem_append.1 ht with q|q
  ·exact .inl ⟨t,q,h⟩
  ·simp at q;subst q;exact .inr h
 ·rintro(⟨t,ht,h⟩|h)
  ·exact⟨t,List.mem_append_left _ ht,h⟩
  ·exact⟨ts,by simp,h⟩
set_option maxHeartbeats 4000000 in
theorem alt_says {s:ByteArray} (hs:s.size≤200) {m:Nat} (H:SeqW s m):AltW s m:=by
 intro n os p w hpm hp hG
 have HH:Hid (SeqW s m∧p.size≤m∧p.size≤200):=⟨H,hpm,hp⟩
 have HPt:Hid (∀wx,Calls Tryz.prog 169 #[.string p] wx (PrtP n os p.size wx)):=fun wx=>l4Parts_says hp hG wx
 have hol:os.length≤201:=by
  obtain⟨k,h1,h2⟩:=hG.tokn
  have:=tokn_le h2
  rw[sb_len]at this
  omega
 have HNo:Hid (Calls Tryz.prog 168 #[.int .i64 (s.size:Int)] w (MaP (s.size+1) (fun _ _=>false) w)):=l4None_core s.size (by omega) w
 clear H hpm hp hG
 go_enter Tryz.func163,Tryz.ntmps163
 go_wp2_with fail
 refine HNo.mono ?_
 rintro r w1 ⟨g,cp,ρ,γ,rfl,HM,hb1⟩
 have hcp:=HM.out.out.caps.1
 go_wp2_with fail
 refine(HPt.out w1).mono ?_
 rintro r w2 ⟨gq,cq,us,rfl,hul,HU,hb2⟩
 have hgq:=HU.1.lt
 have k2:Below w.heap.size w w2:=hb1.trans (hb2.mono hb1.size)
 obtain⟨N,hN⟩:=qE os.length
 rw[←hN]at hol⊢
 have HN:Hid (N=os.length∧us.length=N):=⟨hN,by rw[hul,hN]⟩
 have HM2:Hid (MatR w2 g (s.size+1) ρ γ (fun _ _=>false)):=HM.read.below hb2 (Nat.le_refl _)
 clear hN hul
 go_wp2_with fail
 go_loopw[5,7] (fun ov kv wr=>∃(k go co:Nat) (ρo γo:Nat→Nat) (f:Nat→Nat→Bool),k≤N∧kv=.int .i64 k∧ov=slV go (s.size+1) co∧s.size+1≤co∧Hid (MatR wr go (s.size+1) ρo γo f∧RelW (sb s) f (LgA (os.take k))∧Below w2.heap.size w2 wr)) (fun _ kv _=>N-(intOf kv).toNat)
 case atStart=>exact⟨0,g,cp,ρ,γ,_,Nat.zero_le _,rfl,rfl,hcp,HM2.out,fun i j _ _=>by simp[LgA],Below.refl _ _⟩
 case round=>
  obtain⟨k,go,co,ρo,γo,f,hk,rfl,rfl,hco,HO⟩:=hrel
  by_cases hlt:k<N
  ·have zk:(k:Int)<(N:Int):=by omega
   obtain⟨u,hu⟩:∃u,us[k]?=some u:=⟨_,List.getElem?_eq_getElem (by rw[HN.2];exact hlt)⟩
   obtain⟨x,ts,rfl,hts,hsq,hxs⟩:=HU.2 k u hu
   have c0:wr.cell? ⟨gq,k,none⟩=some (.string x):=by
    rw[HO.2.2.cell (p:=⟨gq,k,none⟩) hgq.2,World.ownsRow.cellAt HU.1 k (by rw[HN.2];omega),hu]
   have HC:Hid (Calls Tryz.prog 171 #[.string x,.string s] wr (MxG s (LgS ts) wr)):=HH.1 n ts x wr (by have:=HH.2.1;omega) (by have:=HH.2.2;omega) hsq
   have HT:Hid (os[k]?=some ts):=hts
   clear hu hts hsq hxs
   go_wp2_with fail
   refine HC.mono ?_
   rintro e w3 ⟨g3,p3,ρ3,γ3,f3,rfl,hp3,HM3,hb3⟩
   have HC2:Hid (Calls Tryz.prog 170 #[slV go (s.size+1) co,slV g3 (s.size+1) p3] w3 (MaF (s.size+1) (fun i j=>f i j || f3 i j) w3)):=l4Or_core s.size go co g3 p3 ρo γo ρ3 γ3 f f3 w3 (by omega) (HO.1.below hb3 (Nat.le_refl _)) HM3.1 hco hp3
   clear c0
   go_wp2_with fail
   refine HC2.mono ?_
   rintro e w4 ⟨g4,p4,ρ4,γ4,f4,rfl,HM4,hb4⟩
   have hp4:=HM4.1.out.caps.1
   have HO2:Hid (MatR w4 g4 (s.size+1) ρ4 γ4 f4∧RelW (sb s) f4 (LgA (os.take (k+1)))∧Below w2.heap.size w2 w4):=by
    refine⟨HM4.1.read,?_,(HO.2.2.trans (hb3.mono HO.2.2.size)).trans (hb4.mono (Nat.le_trans HO.2.2.size hb3.size))⟩
    refine(HO.2.1.or HM3.2).iff (fun i j hij hj=>HM4.2 i j hij (by rw[sb_len]at hj;exact hj)) (fun y=>?_)
    rw[List.take_add_one,HT.out]
    exact LgA_snoc _ _ _
   clear HM4 HM3 hb3 hb4
   go_wp2_with fail
   go_roundw
   case rel=>first|exact⟨k+1,g4,p4,ρ4,γ4,f4,by omega,by go_num,rfl,hp4,HO2⟩|exact⟨k+1,g4,p4,by omega,by go_num,rfl,hp4,ρ4,γ4,f4,HO2⟩|exact⟨k+1,by omega,by go_num,g4,p4,rfl,hp4,ρ4,γ4,f4,HO2⟩
   case measure=>simp[intOf];omega
  ·obtain rfl:k=N:=by omega
   have zk:¬(k:Int)<(k:Int):=by omega
   have HO2:Hid (MatR wr go (s.size+1) ρo γo f∧RelW (sb s) f (LgA os)):=by
    have h9:=HO.2.1
    rw[List.take_of_length_le (by rw[HN.1];exact Nat.le_refl _)]at h9
    exact⟨HO.1,h9⟩
   have hb9:Below w.heap.size w wr:=k2.trans (HO.2.2.mono k2.size)
   go_wp2_with fail
   go_ret
   exact⟨go,co,ρo,γo,f,rfl,hco,HO2,hb9⟩
theorem RelW.plus_sb {s:ByteArray} {fa:Nat→Nat→Bool} {P:List UInt8→Prop} (h:RelW (sb s) fa P):RelW (sb s) (plK fa (s.size+1)) (Pls P):=by
 have:=h.plus
 rw[sb_len]at this
 exact this
theorem RelW.then_sb {s:ByteArray} {fa fb:Nat→Nat→Bool} {P Q:List UInt8→Prop} (h:RelW (sb s) fa P) (k:RelW (sb s) fb Q):RelW (sb s) (fun i j=>thF fa fb i j (s.size+1)) (fun x=>∃y z,x=y++z∧P y∧Q z):=by
 have:=h.then k
 rw[sb_len]at this
 exact this
theorem MxG.iff {s:ByteArray} {P Q:List UInt8→Prop} {w w':World} {r:Ending} (h:MxG s P w r w') (hq:∀x,Q x↔P x):MxG s Q w r w':=by
 obtain⟨g,cp,ρ,γ,f,h1,h2,h3,h4⟩:=h
 exact⟨g,cp,ρ,γ,f,h1,h2,⟨h3.out.1,h3.out.2.iff (fun _ _ _ _=>rfl) hq⟩,h4⟩
theorem plus_says {s:ByteArray} (hs:s.size≤200) {g cp:Nat} {ρ γ:Nat→Nat} {f:Nat→Nat→Bool} {P:List UInt8→Prop} {w:World} (hM:MatR w g (s.size+1) ρ γ f) (hR:RelW (sb s) f P) (hc:s.size+1≤cp):Calls Tryz.prog 179 #[slV g (s.size+1) cp] w (MxG s (Pls P) w):=
 (l4Plus_core s.size g cp ρ γ f w (by omega) hM hc).mono (fun r w' h=>MaG.says h hR.plus_sb)
theorem or_says {s:ByteArray} (hs:s.size≤200) {g cp g' cp':Nat} {ρ γ ρ' γ':Nat→Nat} {f f':Nat→Nat→Bool} {P Q:List UInt8→Prop} {w:World} (hM:MatR w g (s.size+1) ρ γ f) (hR:RelW (sb s) f P) (hc:s.size+1≤cp) (hM':MatR w g' (s.size+1) ρ' γ' f') (hR':RelW (sb s) f' Q) (hc':s.size+1≤cp'):Calls Tryz.prog 170 #[slV g (s.size+1) cp,slV g' (s.size+1) cp'] w (MxG s (fun x=>P x∨Q x) w):=
 (l4Or_core s.size g cp g' cp' ρ γ ρ' γ' f f' w (by omega) hM hM' hc hc').mono (fun r w' h=>MaG.says h.g (hR.or hR'))
theorem then_says {s:ByteArray} (hs:s.size≤200) {g cp g' cp':Nat} {ρ γ ρ' γ':Nat→Nat} {f f':Nat→Nat→Bool} {P Q:List UInt8→Prop} {w:World} (hM:MatR w g (s.size+1) ρ γ f) (hR:RelW (sb s) f P) (hc:s.size+1≤cp) (hM':MatR w g' (s.size+1) ρ' γ' f') (hR':RelW (sb s) f' Q) (hc':s.size+1≤cp'):Calls Tryz.prog 180 #[slV g (s.size+1) cp,slV g' (s.size+1) cp'] w (MxG s (fun x=>∃y z,x=y++z∧P y∧Q z) w):=
 (l4Then_core s.size g cp g' cp' ρ γ ρ' γ' f f' w (by omega) hM hM' hc hc').mono (fun r w' h=>MaG.says h.g (hR.then_sb hR'))
theorem empty_says {s:ByteArray} (hs:s.size≤200) (w:World):Calls Tryz.prog 177 #[.int .i64 (s.size:Int)] w (MxG s (fun x=>x= []) w):=
 (l4Empty_core s.size (by omega) w).mono (fun r w' h=>MaG.says h.g (relW_empty (sb s)))
def opL (P:List UInt8→Prop) (l:List UInt8):List UInt8→Prop:=RepL P (l.any (· != 43)) (l.any (· != 63))
theorem opL_nil (P:List UInt8→Prop) (x:List UInt8):opL P [] x↔P x:=by simp[opL,RepL]
theorem opL_snoc (P:List UInt8→Prop) (l:List UInt8) (c:UInt8):opL P (l++ [c])=RepL P (l.any (· != 43) || c != 43) (l.any (· != 63) || c != 63):=by
 simp[opL,List.any_append]
theorem lg_rep (a:Pat) (ops:List UInt8) (x:List UInt8):Lg (if ops= []then a else .rep a (ops.any (· != 43)) (ops.any (· != 63))) x↔opL (Lg a) ops x:=by
 by_cases h:ops= []
 ·rw[if_pos h,h,opL_nil]
 ·rw[if_neg h];rfl
theorem sgn42 (P:List UInt8→Prop) (l:List UInt8) (x:List UInt8):opL P (l++ [42]) x↔(Pls (opL P l) x∨x= []):=by
 rw[opL_snoc]
 have h1:=sign_plus P (l.any (· != 43)) (l.any (· != 63)) x
 have h2:=sign_opt P (l.any (· != 43)) true x
 rw[show(l.any (· != 43) || (42:UInt8) != 43)=true by simp,show(l.any (· != 63) || (42:UInt8) != 63)=true by simp]
 unfold opL
 rw[h1,h2]
theorem sgn43 (P:List UInt8→Prop) (l:List UInt8) (x:List UInt8):opL P (l++ [43]) x↔Pls (opL P l) x:=by
 rw[opL_snoc]
 have h1:=sign_plus P (l.any (· != 43)) (l.any (· != 63)) x
 rw[show(l.any (· != 43) || (43:UInt8) != 43)=l.any (· != 43)by simp,show(l.any (· != 63) || (43:UInt8) != 63)=true by simp]
 unfold opL
 rw[h1]
theorem sgn63 (P:List UInt8→Prop) (l:List UInt8) (x:List UInt8):opL P (l++ [63]) x↔(opL P l x∨x= []):=by
 rw[opL_snoc]
 have h2:=sign_opt P (l.any (· != 43)) (l.any (· != 63)) x
 rw[show(l.any (· != 43) || (63:UInt8) != 43)=true by simp,show(l.any (· != 63) || (63:UInt8) != 63)=l.any (· != 63)by simp]
 unfold opL
 rw[h2]
structure SeqX (n m:Nat) (p:ByteArray) (a:Pat) (as_ ops:List UInt8) (ts:List Pat):Prop where
 len:0<as_.length
 le:as_.length+ops.length≤p.size
 atom:AtomG n (cut (sb p) 0 as_.length) a
 sg:∀c∈ops,isOp c
 at_:∀k c,ops[k]?=some c→(sb p)[as_.length+k]?=some c
 rest:SeqG (AtomG n) ts (cut (sb p) (as_.length+ops.length) p.size)
 stop:∀c,(sb p)[as_.length+ops.length]?=some c→¬isOp c
theorem seqX_of {n:Nat} {p:ByteArray} {t:Pat} {ts:List Pat} (h:SeqG (AtomG n) (t::ts) (sb p)):∃a as_ ops,SeqX n 0 p a as_ ops ts∧∀x,Lg t x↔opL (Lg a) ops x:=by
 obtain⟨ys,zs,hx,⟨as_,ops,a,hys,hA,hops,ht⟩,hG⟩:=h
 have hx2:sb p=as_++(ops++zs):=by rw[hx,hys,List.append_assoc]
 have hl:p.size=as_.length+(ops.length+zs.length):=by rw[←sb_len,hx2];simp
 obtain⟨c,yt,hyc,_,_,nop⟩:=hA.first
 have h1:cut (sb p) 0 as_.length=as_:=by unfold cut;rw[hx2];simp
 have h2:cut (sb p) (as_.length+ops.length) p.size=zs:=by
  unfold cut
  have e:as_.length+ops.length=(as_++ops).length:=by simp
  rw[hx2,←List.append_assoc,e,List.drop_left]
  exact List.take_of_length_le (by rw[←e];omega)
 refine⟨a,as_,ops,⟨by rw[hyc];simp,by omega,by rw[h1];exact hA,hops,fun k c hk=>?_,by rw[h2];exact hG,fun c hc=>?_⟩,fun x=>by rw[ht];exact lg_rep a ops x⟩
 ·have hkl:=(List.getElem?_eq_some_iff.1 hk).1
  rw[hx2,List.getElem?_append_right (by omega),Nat.add_sub_cancel_left,List.getElem?_append_left hkl];exact hk
 ·rw[hx2,List.getElem?_append_right (by omega),show as_.length+ops.length-as_.length=ops.length by omega,List.getElem?_append_right (Nat.le_refl _),Nat.sub_self]at hc
  cases ts with
  |nil=>rw[show zs= []from hG]at hc;simp at hc
  |cons t' ts'=>
   obtain⟨y2,z2,hz,⟨a2,o2,b2,hy2,hA2,_,_⟩,_⟩:=hG
   obtain⟨c2,yt2,hyc2,_,_,nop2⟩:=hA2.first
   rw[hz,hy2,hyc2]at hc
   simp at hc
   rw[←hc];exact nop2
set_option maxHeartbeats 8000000 in
theorem seq_says {s:ByteArray} (hs:s.size≤200) {m:Nat} (HA:AtmW s (m+1)) (HS:SeqW s m):SeqW s (m+1):=by
 intro n ts p w hpm hp hG
 cases ts with
 |nil=>
  have h0:sb p= []:=hG
  have hz:p.toList= []:=by rw[ByteArray.toList_eq];exact h0
  have q1:(p.toList== [])=true:=by rw[hz];rfl
  have HE:Hid (Calls Tryz.prog 177 #[.int .i64 (s.size:Int)] w (MxG s (fun x=>x= []) w)):=empty_says hs w
  clear hz h0 hG
  go_enter Tryz.func171,Tryz.ntmps171
  go_wp2_with fail
  refine HE.mono ?_
  rintro e w1 ⟨g1,p1,ρ1,γ1,f1,rfl,hp1,HM1,hb1⟩
  have HR:Hid (MxG s (LgS []) w (.returned (slV g1 (s.size+1) p1)) w1):=⟨g1,p1,ρ1,γ1,f1,rfl,hp1,⟨HM1.1,HM1.2.iff (fun _ _ _ _=>rfl) (fun x=>by simp[LgS])⟩,hb1⟩
  go_wp2_with fail
  go_ret
  exact HR.out
 |cons t ts=>
  obtain⟨a,as_,ops,hX,hLt⟩:=seqX_of hG
  have HX:Hid (SeqX n 0 p a as_ ops ts∧∀x,Lg t x↔opL (Lg a) ops x):=⟨hX,hLt⟩
  have q1:(p.toList== [])=false:=by
   have h1:=hX.len
   have h2:=hX.le
   have hz:p.toList≠ []:=fun q=>by rw[ByteArray.toList_eq]at q;have:=sb_len p;rw[show sb p= []from q]at this;simp at this;omega
   cases hq:p.toList with
   |nil=>exact absurd hq hz
   |cons _ _=>rfl
  obtain⟨j1,hj1⟩:=qE as_.length
  obtain⟨no,hno⟩:=qE ops.length
  have hle:j1+no≤p.size:=by rw[hj1,hno];exact hX.le
  have hj0:0<j1:=by rw[hj1];exact hX.len
  have HEnd:Hid (Calls Tryz.prog 176 #[.string p,.int .i64 0] w fun e w'=>e=.returned (.int .i64 (j1:Int))∧Below w.heap.size w w'):=by
   have h9:=end_all hp n 0 j1 a w (by rw[hj1];exact hX.atom) (by omega)
   exact h9
  have HAt:Hid (∀wx,Calls Tryz.prog 178 #[.string (p.extract 0 j1),.string s] wx (MxG s (Lg a) wx)):=fun wx=>by
   have hsz:(p.extract 0 j1).size=j1:=by rw[←sb_len,sb_extract p (by omega),cut_len (by rw[sb_len];omega)];omega
   exact HA n a _ wx (by omega) (by omega) (by rw[sb_extract p (by omega),hj1];exact hX.atom)
  have HSq:Hid (∀wx,Calls Tryz.prog 171 #[.string (p.extract (j1+no) p.size),.string s] wx (MxG s (LgS ts) wx)):=fun wx=>by
   have hsz:(p.extract (j1+no) p.size).size=p.size-(j1+no):=by rw[←sb_len,sb_extract p (Nat.le_refl _),cut_len (by rw[sb_len];exact Nat.le_refl _)]
   exact HS n ts _ wx (by omega) (by omega) (by rw[sb_extract p (Nat.le_refl _),hj1,hno];exact hX.rest)
  have HL:Hid (j1=as_.length∧no=ops.length):=⟨hj1,hno⟩
  have z1:(j1:Int)≤(p.size:Int):=by omega
  clear HA HS hG hX hLt hj1 hno
  go_enter Tryz.func171,Tryz.ntmps171
  go_wp2_with fail
  refine HEnd.mono ?_
  rintro e w1 ⟨rfl,hb1⟩
  go_wp2_with fail
  refine(HAt.out w1).mono ?_
  rintro e w2 ⟨g2,p2,ρ2,γ2,f2,rfl,hp2,HM2,hb2⟩
  have hb02:Below w.heap.size w w2:=hb1.trans (hb2.mono hb1.size)
  go_wp2_with fail
  go_loopw[5,6] (fun jv rv wr=>∃(J k go co:Nat) (ρo γo:Nat→Nat) (f:Nat→Nat→Bool),J≤p.size∧k≤no∧jv=.int .i64 (J:Int)∧rv=slV go (s.size+1) co∧s.size+1≤co∧Hid (MatR wr go (s.size+1) ρo γo f∧RelW (sb s) f (opL (Lg a) (ops.take k))∧Below w.heap.size w wr)∧Hid (J=j1+k)) (fun jv _ _=>p.size-(intOf jv).toNat)
  case atStart=>exact⟨j1,0,g2,p2,ρ2,γ2,f2,by omega,Nat.zero_le _,rfl,rfl,hp2,⟨HM2.1,HM2.2.iff (fun _ _ _ _=>rfl) (fun x=>by rw[List.take_zero];exact opL_nil _ _),hb02⟩,rfl⟩
  case round=>
   obtain⟨J,k,go,co,ρo,γo,f,hJ,hk,rfl,rfl,hco,HO,HJ⟩:=hrel
   by_cases hlt:k<no
   ·obtain⟨c,hc⟩:∃c,ops[k]?=some c:=⟨_,List.getElem?_eq_getElem (by rw[←HL.2];exact hlt)⟩
    have HK:Hid (ops.take (k+1)=ops.take k++ [c]∧(sb p)[J]?=some c):=⟨by rw[List.take_add_one,hc];rfl,by rw[HJ.out,HL.1];exact HX.1.at_ k c hc⟩
    have hop:=HX.1.sg c (List.mem_of_getElem? hc)
    have HJ2:Hid (J+1=j1+(k+1)):=by show _=_;rw[HJ.out];omega
    clear hc
    rcases hop with rfl|rfl|rfl
    ·obtain⟨_,gj⟩:=sb_get HK.2
     have zj:(J:Int)<(p.size:Int):=by have:=lt_of_at HK.2;rw[sb_len]at this;omega
     have HOp:Hid (Calls Tryz.prog 119 #[.int .u8 ((42:UInt8).toNat:Int)] wr fun e w'=>e=.returned (.bool true)∧w'=wr):=by
      have:=l4Op_core 42 wr
      rw[decide_eq_true (by decide)]at this
      exact this
     have hJl:J<p.size:=by omega
     go_wp2_with fail
     refine HOp.mono ?_
     rintro e' w9 ⟨rfl,hw9⟩
     rw[hw9]
     clear hw9
     go_wp2_with fail
     refine(plus_says hs HO.1 HO.2.1 hco).mono ?_
     rintro e w3 ⟨g3,p3,ρ3,γ3,f3,rfl,hp3,HM3,hb3⟩
     have HB3:Hid (Below w.heap.size w w3):=HO.2.2.trans (hb3.mono HO.2.2.size)
     clear hb3
     go_wp2_with fail
     refine(empty_says hs w3).mono ?_
     rintro e w5 ⟨g5,p5,ρ5,γ5,f5,rfl,hp5,HM5,hb5⟩
     have HOr:Hid (Calls Tryz.prog 170 #[slV g3 (s.size+1) p3,slV g5 (s.size+1) p5] w5 (MxG s _ w5)):=or_says hs (HM3.1.below hb5 (Nat.le_refl _)) HM3.2 hp3 HM5.1 HM5.2 hp5
     have HB5:Hid (Below w.heap.size w w5):=HB3.trans (hb5.mono HB3.size)
     clear hb5
     go_wp2_with fail
     refine HOr.mono ?_
     rintro e w6 ⟨g6,p6,ρ6,γ6,f6,rfl,hp6,HM6,hb6⟩
     have HB6:Hid (Below w.heap.size w w6):=HB5.trans (hb6.mono HB5.size)
     clear hb6
     have HO2:Hid (MatR w6 g6 (s.size+1) ρ6 γ6 f6∧RelW (sb s) f6 (opL (Lg a) (ops.take (k+1)))∧Below w.heap.size w w6):=⟨HM6.1,HM6.2.iff (fun _ _ _ _=>rfl) (fun x=>by rw[HK.1];exact(sgn42 _ _ x)),HB6.out⟩
     go_wp2_with fail
     go_roundw
     case rel=>first|exact⟨J+1,k+1,g6,p6,ρ6,γ6,f6,by omega,by omega,by go_num,rfl,hp6,HO2,HJ2⟩|exact⟨J+1,by omega,by go_num,g6,p6,rfl,hp6,k+1,ρ6,γ6,f6,by omega,HO2,HJ2⟩|trace_state
     case measure=>simp[intOf];omega
    ·obtain⟨_,gj⟩:=sb_get HK.2
     have zj:(J:Int)<(p.size:Int):=by have:=lt_of_at HK.2;rw[sb_len]at this;omega
     have HOp:Hid (Calls Tryz.prog 119 #[.int .u8 ((43:UInt8).toNat:Int)] wr fun e w'=>e=.returned (.bool true)∧w'=wr):=by
      have:=l4Op_core 43 wr
      rw[decide_eq_true (by decide)]at this
      exact this
     have hJl:J<p.size:=by omega
     go_wp2_with fail
     refine HOp.mono ?_
     rintro e' w9 ⟨rfl,hw9⟩
     rw[hw9]
     clear hw9
     go_wp2_with fail
     refine(plus_says hs HO.1 HO.2.1 hco).mono ?_
     rintro e w3 ⟨g3,p3,ρ3,γ3,f3,rfl,hp3,HM3,hb3⟩
     have HB3:Hid (Below w.heap.size w w3):=HO.2.2.trans (hb3.mono HO.2.2.size)
     clear hb3
     have HO2:Hid (MatR w3 g3 (s.size+1) ρ3 γ3 f3∧RelW (sb s) f3 (opL (Lg a) (ops.take (k+1)))∧Below w.heap.size w w3):=⟨HM3.1,HM3.2.iff (fun _ _ _ _=>rfl) (fun x=>by rw[HK.1];exact(sgn43 _ _ x)),HB3.out⟩
     go_wp2_with fail
     go_roundw
     case rel=>first|exact⟨J+1,k+1,g3,p3,ρ3,γ3,f3,by omega,by omega,by go_num,rfl,hp3,HO2,HJ2⟩|exact⟨J+1,by omega,by go_num,g3,p3,rfl,hp3,k+1,ρ3,γ3,f3,by omega,HO2,HJ2⟩|trace_state
     case measure=>simp[intOf];omega
    ·obtain⟨_,gj⟩:=sb_get HK.2
     have zj:(J:Int)<(p.size:Int):=by have:=lt_of_at HK.2;rw[sb_len]at this;omega
     have HOp:Hid (Calls Tryz.prog 119 #[.int .u8 ((63:UInt8).toNat:Int)] wr fun e w'=>e=.returned (.bool true)∧w'=wr):=by
      have:=l4Op_core 63 wr
      rw[decide_eq_true (by decide)]at this
      exact this
     have hJl:J<p.size:=by omega
     go_wp2_with fail
     refine HOp.mono ?_
     rintro e' w9 ⟨rfl,hw9⟩
     rw[hw9]
     clear hw9
     go_wp2_with fail
     refine(empty_says hs wr).mono ?_
     rintro e w5 ⟨g5,p5,ρ5,γ5,f5,rfl,hp5,HM5,hb5⟩
     have HOr:Hid (Calls Tryz.prog 170 #[slV go (s.size+1) co,slV g5 (s.size+1) p5] w5 (MxG s _ w5)):=or_says hs (HO.1.below hb5 (Nat.le_refl _)) HO.2.1 hco HM5.1 HM5.2 hp5
     have HB5:Hid (Below w.heap.size w w5):=HO.2.2.trans (hb5.mono HO.2.2.size)
     clear hb5
     go_wp2_with fail
     refine HOr.mono ?_
     rintro e w6 ⟨g6,p6,ρ6,γ6,f6,rfl,hp6,HM6,hb6⟩
     have HB6:Hid (Below w.heap.size w w6):=HB5.trans (hb6.mono HB5.size)
     clear hb6
     have HO2:Hid (MatR w6 g6 (s.size+1) ρ6 γ6 f6∧RelW (sb s) f6 (opL (Lg a) (ops.take (k+1)))∧Below w.heap.size w w6):=⟨HM6.1,HM6.2.iff (fun _ _ _ _=>rfl) (fun x=>by rw[HK.1];exact(sgn63 _ _ x)),HB6.out⟩
     go_wp2_with fail
     go_roundw
     case rel=>first|exact⟨J+1,k+1,g6,p6,ρ6,γ6,f6,by omega,by omega,by go_num,rfl,hp6,HO2,HJ2⟩|exact⟨J+1,by omega,by go_num,g6,p6,rfl,hp6,k+1,ρ6,γ6,f6,by omega,HO2,HJ2⟩|trace_state
     case measure=>simp[intOf];omega
   ·obtain rfl:k=no:=by omega
    have HO2:Hid (MatR wr go (s.size+1) ρo γo f∧RelW (sb s) f (Lg t)∧Below w.heap.size w wr):=by
     refine⟨HO.1,HO.2.1.iff (fun _ _ _ _=>rfl) (fun x=>?_),HO.2.2⟩
     rw[List.take_of_length_le (by rw[HL.2];exact Nat.le_refl _)]
     exact HX.2 x
    have HFin:Hid (∀wx,Below wr.heap.size wr wx→Calls Tryz.prog 171 #[.string (p.extract J p.size),.string s] wx (MxG s (LgS ts) wx)):=fun wx _=>by rw[HJ.out];exact HSq.out wx
    by_cases hJl:J<p.size
    ·obtain⟨c,hc⟩:∃c,(sb p)[J]?=some c:=⟨_,List.getElem?_eq_getElem (by rw[sb_len];exact hJl)⟩
     obtain⟨_,gj⟩:=sb_get hc
     have zj:(J:Int)<(p.size:Int):=by omega
     have nop:=HX.1.stop c (by rw[←HL.1,←HL.2,←HJ.out];exact hc)
     have HOp:Hid (Calls Tryz.prog 119 #[.int .u8 (c.toNat:Int)] wr fun e w'=>e=.returned (.bool false)∧w'=wr):=by
      have:=l4Op_core c wr
      rw[decide_eq_false nop]at this
      exact this
     clear hc nop
     go_wp2_with fail
     refine HOp.mono ?_
     rintro e' w9 ⟨rfl,hw9⟩
     rw[hw9]
     clear hw9
     go_wp2_with fail
     refine(HFin.out wr (Below.refl _ _)).mono ?_
     rintro e w3 ⟨g3,p3,ρ3,γ3,f3,rfl,hp3,HM3,hb3⟩
     have HB3:Hid (Below w.heap.size w w3):=HO2.2.2.trans (hb3.mono HO2.2.2.size)
     have HTh:Hid (Calls Tryz.prog 180 #[slV go (s.size+1) co,slV g3 (s.size+1) p3] w3 (MxG s (LgS (t::ts)) w3)):=(then_says hs (HO2.1.below hb3 (Nat.le_refl _)) HO2.2.1 hco HM3.1 HM3.2 hp3).mono (fun r w' h=>MxG.iff h (fun x=>by simp[LgS]))
     clear hb3
     go_wp2_with fail
     refine HTh.mono ?_
     rintro e w4 ⟨g4,p4,ρ4,γ4,f4,rfl,hp4,HM4,hb4⟩
     have HR:Hid (MxG s (LgS (t::ts)) w (.returned (slV g4 (s.size+1) p4)) w4):=⟨g4,p4,ρ4,γ4,f4,rfl,hp4,HM4,HB3.trans (hb4.mono HB3.size)⟩
     clear hb4
     go_wp2_with fail
     go_ret
     exact HR.out
    ·have zj:¬(J:Int)<(p.size:Int):=by omega
     have zj2:(J:Int)≤(p.size:Int):=by omega
     go_wp2_with fail
     refine(HFin.out wr (Below.refl _ _)).mono ?_
     rintro e w3 ⟨g3,p3,ρ3,γ3,f3,rfl,hp3,HM3,hb3⟩
     have HB3:Hid (Below w.heap.size w w3):=HO2.2.2.trans (hb3.mono HO2.2.2.size)
     have HTh:Hid (Calls Tryz.prog 180 #[slV go (s.size+1) co,slV g3 (s.size+1) p3] w3 (MxG s (LgS (t::ts)) w3)):=(then_says hs (HO2.1.below hb3 (Nat.le_refl _)) HO2.2.1 hco HM3.1 HM3.2 hp3).mono (fun r w' h=>MxG.iff h (fun x=>by simp[LgS]))
     clear hb3
     go_wp2_with fail
     refine HTh.mono ?_
     rintro e w4 ⟨g4,p4,ρ4,γ4,f4,rfl,hp4,HM4,hb4⟩
     have HR:Hid (MxG s (LgS (t::ts)) w (.returned (slV g4 (s.size+1) p4)) w4):=⟨g4,p4,ρ4,γ4,f4,rfl,hp4,HM4,HB3.trans (hb4.mono HB3.size)⟩
     clear hb4
     go_wp2_with fail
     go_ret
     exact HR.out
theorem relW_one {s:List UInt8} {f:Nat→Nat→Bool} {τ:UInt8→Bool} (h:∀i j,i≤j→j<s.length+1→f i j=(decide (j=i+1) && ((s[i]?).map τ).getD false)):RelW s f (fun x=>∃c,x= [c]∧τ c=true):=by
 intro i j hij hj
 rw[h i j hij (by omega),Bool.and_eq_true,decide_eq_true_eq]
 constructor
 ·rintro⟨rfl,h2⟩
  cases hc:s[i]? with
  |none=>rw[hc]at h2;cases h2
  |some c=>rw[hc]at h2;exact⟨c,cut_one hc,h2⟩
 ·rintro⟨c,hx,hc⟩
  have hl:=cut_len (p:=s) (i:=i) hj
  rw[hx]at hl
  have e:j=i+1:=by simp at hl;omega
  subst e
  have hi:i<s.length:=by omega
  have h1:=cut_one (p:=s) (i:=i) (List.getElem?_eq_getElem hi)
  rw[hx]at h1
  have h2:c=s[i]:=by simpa using h1
  exact⟨rfl,by rw[List.getElem?_eq_getElem hi,←h2];exact hc⟩
set_option maxHeartbeats 8000000 in
theorem atm_byte {s:ByteArray} (hs:s.size≤200) (q:ByteArray) (c:UInt8) (hq:sb q= [c]) (h40:¬c=40) (h46:¬c=46) (h92:¬c=92) (h91:¬c=91) (w:World):Calls Tryz.prog 178 #[.string q,.string s] w (MxG s (Lg (.byte c)) w):=by
 have hql:q.size=1:=by rw[←sb_len,hq];rfl
 obtain⟨_,gq⟩:=sb_get (s:=q) (i:=0) (x:=c) (by rw[hq];rfl)
 have zq:(0:Int)<(q.size:Int):=by omega
 have z40:((c.toNat:Int)==40)=false:=beq_eq_false_iff_ne.2 (ne_u8 (c:=40) h40)
 have z46:((c.toNat:Int)==46)=false:=beq_eq_false_iff_ne.2 (ne_u8 (c:=46) h46)
 have z92:((c.toNat:Int)==92)=false:=beq_eq_false_iff_ne.2 (ne_u8 (c:=92) h92)
 have z91:((c.toNat:Int)==91)=false:=beq_eq_false_iff_ne.2 (ne_u8 (c:=91) h91)
 have HNo:Hid (Calls Tryz.prog 168 #[.int .i64 (s.size:Int)] w (MaP (s.size+1) (fun _ _=>false) w)):=l4None_core s.size (by omega) w
 clear hq h40 h46 h92 h91 hql
 go_enter Tryz.func178,Tryz.ntmps178
 go_wp2_with fail
 refine HNo.mono ?_
 rintro r w1 ⟨g,cp,ρ,γ,rfl,HM,hb1⟩
 have hcp:=HM.out.out.caps
 go_wp2_with fail
 go_loopw[6] (fun iv wr=>∃(k:Nat) (f:Nat→Nat→Bool),k≤s.size∧iv=.int .i64 k∧Hid (MatO wr w.heap.size g cp (s.size+1) (s.size+1) ρ γ f∧(∀i j,i≤j→j<s.size+1→f i j=(decide (j=i+1) && (((sb s)[i]?).map (fun x=>x==c)).getD false && decide (i<k)))∧Below w.heap.size w wr)) (fun iv _=>s.size-(intOf iv).toNat)
 case atStart=>exact⟨0,_,Nat.zero_le _,rfl,HM.out,fun i j _ _=>by simp,hb1⟩
 case round=>
  obtain⟨k,f,hk,rfl,HJ⟩:=hrel
  by_cases hlt:k<s.size
  ·have zk:(k:Int)<(s.size:Int):=by omega
   obtain⟨x,hx⟩:∃x,(sb s)[k]?=some x:=⟨_,List.getElem?_eq_getElem (by rw[sb_len];exact hlt)⟩
   obtain⟨_,gx⟩:=sb_get hx
   have c0:wr.cell? ⟨g,k,none⟩=some (slV (ρ k) (s.size+1) (γ k)):=HJ.1.cell (by omega)
   have hkk:k<s.size+1:=by omega
   have c1:wr.cell? ⟨ρ k,k+1,none⟩=some (.bool (f k (k+1))):=(HJ.1.row k hkk).cell (by omega)
   have y1:wr.frozen? ⟨ρ k,k+1,none⟩=false:=World.ownsRow.frozenAt (HJ.1.row k hkk) _
   have hrc:=(HJ.1.row k hkk).caps
   obtain⟨bv,hbv⟩:=qE (((c.toNat:Int)==(x.toNat:Int)))
   have HV:Hid (bv=(x==c)):=by show _=_;rw[hbv,Bool.eq_iff_iff,beq_iff_eq,beq_iff_eq];exact⟨fun q=>UInt8.toNat_inj.1 (by omega),fun q=>by rw[q]⟩
   have HX:Hid ((sb s)[k]?=some x):=hx
   clear hx
   go_upto_region 7 with fail
   refine wp_region_T 99 (fun _=>True) (by kernel_rfl) ?_
   refine anyT_takeN (i:=0) (v:=?vb0) rfl (by kernel_rfl) (by kernel_rfl) (by kernel_rfl) (by rfl) (fun _ _ _ h=>h) (Or.inl ⟨by rfl,?yb0⟩) True.intro ?_
   case yb0=>exact zzR3
   try simp only[qA,List.getElem_toArray,List.getElem_cons_zero,List.getElem_cons_succ]
   refine anyT_takeN (i:=1) (v:=?vb1) rfl (by kernel_rfl) (by kernel_rfl) (by kernel_rfl) (by rfl) (fun _ _ _ h=>h) (Or.inl ⟨by rfl,?yb1⟩) True.intro ?_
   case yb1=>exact zzR3
   try simp only[qA,List.getElem_toArray,List.getElem_cons_zero,List.getElem_cons_succ]
   refine anyT_takeN (i:=2) (v:=.bool false) rfl (by kernel_rfl) (by kernel_rfl) (by kernel_rfl) (by rfl) (fun _ _ _ h=>h) (Or.inl ⟨by rfl,?yb2⟩) True.intro ?_
   case yb2=>exact zzR21
   try simp only[qA,List.getElem_toArray,List.getElem_cons_zero,List.getElem_cons_succ]
   refine anyT_takeN (i:=3) (v:=?vb3) rfl (by kernel_rfl) (by kernel_rfl) (by kernel_rfl) (by rfl) (fun _ _ _ h=>h) (Or.inl ⟨by rfl,?yb3⟩) True.intro ?_
   case yb3=>exact zzR3
   try simp only[qA,List.getElem_toArray,List.getElem_cons_zero,List.getElem_cons_succ]
   refine anyT_takeN (i:=4) (v:=?vb4) rfl (by kernel_rfl) (by kernel_rfl) (by kernel_rfl) (by rfl) (fun _ _ _ h=>h) (Or.inl ⟨by rfl,?yb4⟩) True.intro ?_
   case yb4=>exact zzR3
   try simp only[qA,List.getElem_toArray,List.getElem_cons_zero,List.getElem_cons_succ]
   refine anyT_takeN (i:=5) (v:=?vb5) rfl (by kernel_rfl) (by kernel_rfl) (by kernel_rfl) (by rfl) (fun _ _ _ h=>h) (Or.inl ⟨by rfl,?yb5⟩) True.intro ?_
   case yb5=>exact zzR3
   try simp only[qA,List.getElem_toArray,List.getElem_cons_zero,List.getElem_cons_succ]
   refine anyT_takeN (i:=6) (v:=?vb6) rfl (by kernel_rfl) (by kernel_rfl) (by kernel_rfl) (by rfl) (fun _ _ _ h=>h) (Or.inl ⟨by rfl,?yb6⟩) True.intro ?_
   case yb6=>exact zzR3
   try simp only[qA,List.getElem_toArray,List.getElem_cons_zero,List.getElem_cons_succ]
   refine anyT_takeN (i:=7) (v:=?vb7) rfl (by kernel_rfl) (by kernel_rfl) (by kernel_rfl) (by rfl) (fun _ _ _ h=>h) (Or.inl ⟨by rfl,?yb7⟩) True.intro ?_
   case yb7=>exact zzR3
   try simp only[qA,List.getElem_toArray,List.getElem_cons_zero,List.getElem_cons_succ]
   refine anyT_takeN (i:=8) (v:=?vb8) rfl (by kernel_rfl) (by kernel_rfl) (by kernel_rfl) (by rfl) (fun _ _ _ h=>h) (Or.inl ⟨by rfl,?yb8⟩) True.intro ?_
   case yb8=>exact zzR3
   try simp only[qA,List.getElem_toArray,List.getElem_cons_zero,List.getElem_cons_succ]
   refine anyT_takeN (i:=9) (v:=?vb9) rfl (by kernel_rfl) (by kernel_rfl) (by kernel_rfl) (by rfl) (fun _ _ _ h=>h) (Or.inl ⟨by rfl,?yb9⟩) True.intro ?_
   case yb9=>exact zzR3
   try simp only[qA,List.getElem_toArray,List.getElem_cons_zero,List.getElem_cons_succ]
   refine anyT_takeN (i:=10) (v:=?vb10) rfl (by kernel_rfl) (by kernel_rfl) (by kernel_rfl) (by rfl) (fun _ _ _ h=>h) (Or.inl ⟨by rfl,?yb10⟩) True.intro ?_
   case yb10=>exact zzR3
   try simp only[qA,List.getElem_toArray,List.getElem_cons_zero,List.getElem_cons_succ]
   refine qO 11 rfl fun K hK=>?_
   go_simp
   refine hK.out _ _ (.inr True.intro) ?_
   clear hK
   try simp only[qA,List.getElem_toArray,List.getElem_cons_zero,List.getElem_cons_succ]
   refine qD ?_
   rw[←hbv]
   clear hbv
   have HJ2:Hid (MatO (wr.setCell ⟨ρ k,k+1,none⟩ (.bool bv)).drew w.heap.size g cp (s.size+1) (s.size+1) ρ γ (upd2 f k (k+1) bv)∧(∀i j,i≤j→j<s.size+1→upd2 f k (k+1) bv i j=(decide (j=i+1) && (((sb s)[i]?).map (fun x=>x==c)).getD false && decide (i<k+1)))∧Below w.heap.size w (wr.setCell ⟨ρ k,k+1,none⟩ (.bool bv)).drew):=by
    refine⟨(HJ.1.set hkk (by omega) bv).below ((Below.refl _ _).drew),fun i j hij hj=>?_,(below_set HJ.2.2 (HJ.1.row k hkk).lt.1 _ _).drew⟩
    unfold upd2
    by_cases e:i=k∧j=k+1
    ·rw[if_pos e,e.1,e.2,HX.out,HV.out];simp
    ·rw[if_neg e,HJ.2.1 i j hij hj]
     by_cases e2:j=i+1
     ·have h1:i≠k:=fun q=>e ⟨q,by omega⟩
      have h2:decide (i<k)=decide (i<k+1):=by rw[decide_eq_decide];omega
      rw[h2]
     ·simp[e2]
   exact zzQ44
  ·exact zzQ39
set_option maxHeartbeats 8000000 in
theorem atm_dot {s:ByteArray} (hs:s.size≤200) (q:ByteArray) (d:UInt8) (hq:sb q= [d]) (hd:d=46) (w:World):Calls Tryz.prog 178 #[.string q,.string s] w (MxG s (Lg (.cls (fun _=>true))) w):=by
 have hql:q.size=1:=by rw[←sb_len,hq];rfl
 obtain⟨_,gq⟩:=sb_get (s:=q) (i:=0) (x:=d) (by rw[hq];rfl)
 have z40:((d.toNat:Int)==40)=false:=by rw[hd];rfl
 have z46:((d.toNat:Int)==46)=true:=by rw[hd];rfl
 have z92:((d.toNat:Int)==92)=false:=by rw[hd];rfl
 have z91:((d.toNat:Int)==91)=false:=by rw[hd];rfl
 have zq:(0:Int)<(q.size:Int):=by omega
 have HNo:Hid (Calls Tryz.prog 168 #[.int .i64 (s.size:Int)] w (MaP (s.size+1) (fun _ _=>false) w)):=l4None_core s.size (by omega) w
 clear hq hd hql
 go_enter Tryz.func178,Tryz.ntmps178
 go_wp2_with fail
 refine HNo.mono ?_
 rintro r w1 ⟨g,cp,ρ,γ,rfl,HM,hb1⟩
 have hcp:=HM.out.out.caps
 go_wp2_with fail
 go_loopw[6] (fun iv wr=>∃(k:Nat) (f:Nat→Nat→Bool),k≤s.size∧iv=.int .i64 k∧Hid (MatO wr w.heap.size g cp (s.size+1) (s.size+1) ρ γ f∧(∀i j,i≤j→j<s.size+1→f i j=(decide (j=i+1) && (((sb s)[i]?).map (fun _=>true)).getD false && decide (i<k)))∧Below w.heap.size w wr)) (fun iv _=>s.size-(intOf iv).toNat)
 case atStart=>exact⟨0,_,Nat.zero_le _,rfl,HM.out,fun i j _ _=>by simp,hb1⟩
 case round=>
  obtain⟨k,f,hk,rfl,HJ⟩:=hrel
  by_cases hlt:k<s.size
  ·have zk:(k:Int)<(s.size:Int):=by omega
   obtain⟨x,hx⟩:∃x,(sb s)[k]?=some x:=⟨_,List.getElem?_eq_getElem (by rw[sb_len];exact hlt)⟩
   obtain⟨_,gx⟩:=sb_get hx
   have c0:wr.cell? ⟨g,k,none⟩=some (slV (ρ k) (s.size+1) (γ k)):=HJ.1.cell (by omega)
   have hkk:k<s.size+1:=by omega
   have c1:wr.cell? ⟨ρ k,k+1,none⟩=some (.bool (f k (k+1))):=(HJ.1.row k hkk).cell (by omega)
   have y1:wr.frozen? ⟨ρ k,k+1,none⟩=false:=World.ownsRow.frozenAt (HJ.1.row k hkk) _
   have hrc:=(HJ.1.row k hkk).caps
   obtain⟨bv,hbv⟩:=qE ((true))
   have HV:Hid (bv=(fun _=>true) x):=by exact hbv
   have HX:Hid ((sb s)[k]?=some x):=hx
   clear hx
   go_upto_region 7 with fail
   refine wp_region_T 99 (fun _=>True) (by kernel_rfl) ?_
   refine anyT_takeN (i:=0) (v:=?vb0) rfl (by kernel_rfl) (by kernel_rfl) (by kernel_rfl) (by rfl) (fun _ _ _ h=>h) (Or.inl ⟨by rfl,?yb0⟩) True.intro ?_
   case yb0=>exact zzR3
   try simp only[qA,List.getElem_toArray,List.getElem_cons_zero,List.getElem_cons_succ]
   refine anyT_takeN (i:=1) (v:=?vb1) rfl (by kernel_rfl) (by kernel_rfl) (by kernel_rfl) (by rfl) (fun _ _ _ h=>h) (Or.inl ⟨by rfl,?yb1⟩) True.intro ?_
   case yb1=>exact zzR3
   try simp only[qA,List.getElem_toArray,List.getElem_cons_zero,List.getElem_cons_succ]
   refine anyT_takeN (i:=2) (v:=.bool true) rfl (by kernel_rfl) (by kernel_rfl) (by kernel_rfl) (by rfl) (fun _ _ _ h=>h) (Or.inl ⟨by rfl,?yb2⟩) True.intro ?_
   case yb2=>exact zzR21
   try simp only[qA,List.getElem_toArray,List.getElem_cons_zero,List.getElem_cons_succ]
   refine anyT_takeN (i:=3) (v:=?vb3) rfl (by kernel_rfl) (by kernel_rfl) (by kernel_rfl) (by rfl) (fun _ _ _ h=>h) (Or.inl ⟨by rfl,?yb3⟩) True.intro ?_
   case yb3=>exact zzR3
   try simp only[qA,List.getElem_toArray,List.getElem_cons_zero,List.getElem_cons_succ]
   refine anyT_takeN (i:=4) (v:=undef) rfl (by kernel_rfl) (by kernel_rfl) (by kernel_rfl) (by rfl) (fun _ _ _ h=>h) (Or.inr ⟨by rfl,rfl⟩) True.intro ?_
   try simp only[qA,List.getElem_toArray,List.getElem_cons_zero,List.getElem_cons_succ]
   refine anyT_takeN (i:=5) (v:=undef) rfl (by kernel_rfl) (by kernel_rfl) (by kernel_rfl) (by rfl) (fun _ _ _ h=>h) (Or.inr ⟨by rfl,rfl⟩) True.intro ?_
   try simp only[qA,List.getElem_toArray,List.getElem_cons_zero,List.getElem_cons_succ]
   refine anyT_takeN (i:=6) (v:=undef) rfl (by kernel_rfl) (by kernel_rfl) (by kernel_rfl) (by rfl) (fun _ _ _ h=>h) (Or.inr ⟨by rfl,rfl⟩) True.intro ?_
   try simp only[qA,List.getElem_toArray,List.getElem_cons_zero,List.getElem_cons_succ]
   refine anyT_takeN (i:=7) (v:=undef) rfl (by kernel_rfl) (by kernel_rfl) (by kernel_rfl) (by rfl) (fun _ _ _ h=>h) (Or.inr ⟨by rfl,rfl⟩) True.intro ?_
   try simp only[qA,List.getElem_toArray,List.getElem_cons_zero,List.getElem_cons_succ]
   refine anyT_takeN (i:=8) (v:=undef) rfl (by kernel_rfl) (by kernel_rfl) (by kernel_rfl) (by rfl) (fun _ _ _ h=>h) (Or.inr ⟨by rfl,rfl⟩) True.intro ?_
   try simp only[qA,List.getElem_toArray,List.getElem_cons_zero,List.getElem_cons_succ]
   refine anyT_takeN (i:=9) (v:=undef) rfl (by kernel_rfl) (by kernel_rfl) (by kernel_rfl) (by rfl) (fun _ _ _ h=>h) (Or.inr ⟨by rfl,rfl⟩) True.intro ?_
   try simp only[qA,List.getElem_toArray,List.getElem_cons_zero,List.getElem_cons_succ]
   refine anyT_takeN (i:=10) (v:=?vb10) rfl (by kernel_rfl) (by kernel_rfl) (by kernel_rfl) (by rfl) (fun _ _ _ h=>h) (Or.inl ⟨by rfl,?yb10⟩) True.intro ?_
   case yb10=>exact zzR3
   try simp only[qA,List.getElem_toArray,List.getElem_cons_zero,List.getElem_cons_succ]
   refine qO 11 rfl fun K hK=>?_
   go_simp
   refine hK.out _ _ (.inr True.intro) ?_
   clear hK
   try simp only[qA,List.getElem_toArray,List.getElem_cons_zero,List.getElem_cons_succ]
   refine qD ?_
   have hbv2:(Value.bool true)=Value.bool bv:=by rw[hbv]
   rw[hbv2]
   clear hbv hbv2
   have HJ2:Hid (MatO (wr.setCell ⟨ρ k,k+1,none⟩ (.bool bv)).drew w.heap.size g cp (s.size+1) (s.size+1) ρ γ (upd2 f k (k+1) bv)∧(∀i j,i≤j→j<s.size+1→upd2 f k (k+1) bv i j=(decide (j=i+1) && (((sb s)[i]?).map (fun _=>true)).getD false && decide (i<k+1)))∧Below w.heap.size w (wr.setCell ⟨ρ k,k+1,none⟩ (.bool bv)).drew):=by
    refine⟨(HJ.1.set hkk (by omega) bv).below ((Below.refl _ _).drew),fun i j hij hj=>?_,(below_set HJ.2.2 (HJ.1.row k hkk).lt.1 _ _).drew⟩
    unfold upd2
    by_cases e:i=k∧j=k+1
    ·rw[if_pos e,e.1,e.2,HX.out,HV.out];simp
    ·rw[if_neg e,HJ.2.1 i j hij hj]
     by_cases e2:j=i+1
     ·have h1:i≠k:=fun q=>e ⟨q,by omega⟩
      have h2:decide (i<k)=decide (i<k+1):=by rw[decide_eq_decide];omega
      rw[h2]
     ·simp[e2]
   exact zzQ44
  ·obtain rfl:k=s.size:=by omega
   have zk:¬(s.size:Int)<(s.size:Int):=by omega
   go_wp2_with fail
   go_ret
   refine⟨g,cp,ρ,γ,f,rfl,hcp.1,⟨HJ.1.read,(relW_one (τ:=fun _=>true) (fun i j hij hj=>?_)).iff (fun _ _ _ _=>rfl) (fun y=>by simp[Lg])⟩,HJ.2.2⟩
   rw[sb_len]at hj
   rw[HJ.2.1 i j hij hj]
   by_cases e:j=i+1
   ·have h1:i<s.size:=by omega
    simp[h1]
   ·simp[e]
set_option maxHeartbeats 8000000 in
theorem atm_esc {s:ByteArray} (hs:s.size≤200) (q:ByteArray) (d c:UInt8) (hq:sb q= [d,c]) (hd:d=92) (w:World):Calls Tryz.prog 178 #[.string q,.string s] w (MxG s (Lg (.byte c)) w):=by
 have hql:q.size=2:=by rw[←sb_len,hq];rfl
 obtain⟨_,gq⟩:=sb_get (s:=q) (i:=0) (x:=d) (by rw[hq];rfl)
 obtain⟨_,gq1⟩:=sb_get (s:=q) (i:=1) (x:=c) (by rw[hq];rfl)
 have zq1:(1:Int)<(q.size:Int):=by omega
 have z40:((d.toNat:Int)==40)=false:=by rw[hd];rfl
 have z46:((d.toNat:Int)==46)=false:=by rw[hd];rfl
 have z92:((d.toNat:Int)==92)=true:=by rw[hd];rfl
 have z91:((d.toNat:Int)==91)=false:=by rw[hd];rfl
 have zq:(0:Int)<(q.size:Int):=by omega
 have HNo:Hid (Calls Tryz.prog 168 #[.int .i64 (s.size:Int)] w (MaP (s.size+1) (fun _ _=>false) w)):=l4None_core s.size (by omega) w
 clear hq hd hql
 go_enter Tryz.func178,Tryz.ntmps178
 go_wp2_with fail
 refine HNo.mono ?_
 rintro r w1 ⟨g,cp,ρ,γ,rfl,HM,hb1⟩
 have hcp:=HM.out.out.caps
 go_wp2_with fail
 go_loopw[6] (fun iv wr=>∃(k:Nat) (f:Nat→Nat→Bool),k≤s.size∧iv=.int .i64 k∧Hid (MatO wr w.heap.size g cp (s.size+1) (s.size+1) ρ γ f∧(∀i j,i≤j→j<s.size+1→f i j=(decide (j=i+1) && (((sb s)[i]?).map (fun x=>x==c)).getD false && decide (i<k)))∧Below w.heap.size w wr)) (fun iv _=>s.size-(intOf iv).toNat)
 case atStart=>exact⟨0,_,Nat.zero_le _,rfl,HM.out,fun i j _ _=>by simp,hb1⟩
 case round=>
  obtain⟨k,f,hk,rfl,HJ⟩:=hrel
  by_cases hlt:k<s.size
  ·have zk:(k:Int)<(s.size:Int):=by omega
   obtain⟨x,hx⟩:∃x,(sb s)[k]?=some x:=⟨_,List.getElem?_eq_getElem (by rw[sb_len];exact hlt)⟩
   obtain⟨_,gx⟩:=sb_get hx
   have c0:wr.cell? ⟨g,k,none⟩=some (slV (ρ k) (s.size+1) (γ k)):=HJ.1.cell (by omega)
   have hkk:k<s.size+1:=by omega
   have c1:wr.cell? ⟨ρ k,k+1,none⟩=some (.bool (f k (k+1))):=(HJ.1.row k hkk).cell (by omega)
   have y1:wr.frozen? ⟨ρ k,k+1,none⟩=false:=World.ownsRow.frozenAt (HJ.1.row k hkk) _
   have hrc:=(HJ.1.row k hkk).caps
   obtain⟨bv,hbv⟩:=qE (((c.toNat:Int)==(x.toNat:Int)))
   have HV:Hid (bv=(fun x=>x==c) x):=by show _=_;rw[hbv,Bool.eq_iff_iff,beq_iff_eq,beq_iff_eq];exact⟨fun q=>UInt8.toNat_inj.1 (by omega),fun q=>by rw[q]⟩
   have HX:Hid ((sb s)[k]?=some x):=hx
   clear hx
   go_upto_region 7 with fail
   refine wp_region_T 99 (fun _=>True) (by kernel_rfl) ?_
   refine anyT_takeN (i:=0) (v:=?vb0) rfl (by kernel_rfl) (by kernel_rfl) (by kernel_rfl) (by rfl) (fun _ _ _ h=>h) (Or.inl ⟨by rfl,?yb0⟩) True.intro ?_
   case yb0=>exact zzR3
   try simp only[qA,List.getElem_toArray,List.getElem_cons_zero,List.getElem_cons_succ]
   refine anyT_takeN (i:=1) (v:=?vb1) rfl (by kernel_rfl) (by kernel_rfl) (by kernel_rfl) (by rfl) (fun _ _ _ h=>h) (Or.inl ⟨by rfl,?yb1⟩) True.intro ?_
   case yb1=>exact zzR3
   try simp only[qA,List.getElem_toArray,List.getElem_cons_zero,List.getElem_cons_succ]
   refine anyT_takeN (i:=2) (v:=.bool false) rfl (by kernel_rfl) (by kernel_rfl) (by kernel_rfl) (by rfl) (fun _ _ _ h=>h) (Or.inl ⟨by rfl,?yb2⟩) True.intro ?_
   case yb2=>exact zzR21
   try simp only[qA,List.getElem_toArray,List.getElem_cons_zero,List.getElem_cons_succ]
   refine anyT_takeN (i:=3) (v:=?vb3) rfl (by kernel_rfl) (by kernel_rfl) (by kernel_rfl) (by rfl) (fun _ _ _ h=>h) (Or.inl ⟨by rfl,?yb3⟩) True.intro ?_
   case yb3=>exact zzR3
   try simp only[qA,List.getElem_toArray,List.getElem_cons_zero,List.getElem_cons_succ]
   refine anyT_takeN (i:=4) (v:=?vb4) rfl (by kernel_rfl) (by kernel_rfl) (by kernel_rfl) (by rfl) (fun _ _ _ h=>h) (Or.inl ⟨by rfl,?yb4⟩) True.intro ?_
   case yb4=>exact zzR3
   try simp only[qA,List.getElem_toArray,List.getElem_cons_zero,List.getElem_cons_succ]
   refine anyT_takeN (i:=5) (v:=?vb5) rfl (by kernel_rfl) (by kernel_rfl) (by kernel_rfl) (by rfl) (fun _ _ _ h=>h) (Or.inl ⟨by rfl,?yb5⟩) True.intro ?_
   case yb5=>exact zzR3
   try simp only[qA,List.getElem_toArray,List.getElem_cons_zero,List.getElem_cons_succ]
   refine anyT_takeN (i:=6) (v:=?vb6) rfl (by kernel_rfl) (by kernel_rfl) (by kernel_rfl) (by rfl) (fun _ _ _ h=>h) (Or.inl ⟨by rfl,?yb6⟩) True.intro ?_
   case yb6=>exact zzR3
   try simp only[qA,List.getElem_toArray,List.getElem_cons_zero,List.getElem_cons_succ]
   refine anyT_takeN (i:=7) (v:=?vb7) rfl (by kernel_rfl) (by kernel_rfl) (by kernel_rfl) (by rfl) (fun _ _ _ h=>h) (Or.inl ⟨by rfl,?yb7⟩) True.intro ?_
   case yb7=>exact zzR3
   try simp only[qA,List.getElem_toArray,List.getElem_cons_zero,List.getElem_cons_succ]
   refine anyT_takeN (i:=8) (v:=?vb8) rfl (by kernel_rfl) (by kernel_rfl) (by kernel_rfl) (by rfl) (fun _ _ _ h=>h) (Or.inl ⟨by rfl,?yb8⟩) True.intro ?_
   case yb8=>exact zzR3
   try simp only[qA,List.getElem_toArray,List.getElem_cons_zero,List.getElem_cons_succ]
   refine anyT_takeN (i:=9) (v:=?vb9) rfl (by kernel_rfl) (by kernel_rfl) (by kernel_rfl) (by rfl) (fun _ _ _ h=>h) (Or.inl ⟨by rfl,?yb9⟩) True.intro ?_
   case yb9=>exact zzR3
   try simp only[qA,List.getElem_toArray,List.getElem_cons_zero,List.getElem_cons_succ]
   refine anyT_takeN (i:=10) (v:=?vb10) rfl (by kernel_rfl) (by kernel_rfl) (by kernel_rfl) (by rfl) (fun _ _ _ h=>h) (Or.inl ⟨by rfl,?yb10⟩) True.intro ?_
   case yb10=>exact zzR3
   try simp only[qA,List.getElem_toArray,List.getElem_cons_zero,List.getElem_cons_succ]
   refine qO 11 rfl fun K hK=>?_
   go_simp
   refine hK.out _ _ (.inr True.intro) ?_
   clear hK
   try simp only[qA,List.getElem_toArray,List.getElem_cons_zero,List.getElem_cons_succ]
   refine qD ?_
   go_upto_region 9 with fail
   refine wp_region_T 99 (fun _=>True) (by kernel_rfl) ?_
   refine anyT_takeN (i:=0) (v:=?ve0) rfl (by kernel_rfl) (by kernel_rfl) (by kernel_rfl) (by rfl) (fun _ _ _ h=>h) (Or.inl ⟨by rfl,?ye0⟩) True.intro ?_
   case ye0=>exact zzR3
   try simp only[qA,List.getElem_toArray,List.getElem_cons_zero,List.getElem_cons_succ]
   refine anyT_takeN (i:=1) (v:=?ve1) rfl (by kernel_rfl) (by kernel_rfl) (by kernel_rfl) (by rfl) (fun _ _ _ h=>h) (Or.inl ⟨by rfl,?ye1⟩) True.intro ?_
   case ye1=>exact zzR3
   try simp only[qA,List.getElem_toArray,List.getElem_cons_zero,List.getElem_cons_succ]
   refine anyT_takeN (i:=2) (v:=?ve2) rfl (by kernel_rfl) (by kernel_rfl) (by kernel_rfl) (by rfl) (fun _ _ _ h=>h) (Or.inl ⟨by rfl,?ye2⟩) True.intro ?_
   case ye2=>exact zzR3
   try simp only[qA,List.getElem_toArray,List.getElem_cons_zero,List.getElem_cons_succ]
   refine anyT_takeN (i:=3) (v:=?ve3) rfl (by kernel_rfl) (by kernel_rfl) (by kernel_rfl) (by rfl) (fun _ _ _ h=>h) (Or.inl ⟨by rfl,?ye3⟩) True.intro ?_
   case ye3=>exact zzR3
   try simp only[qA,List.getElem_toArray,List.getElem_cons_zero,List.getElem_cons_succ]
   refine anyT_takeN (i:=4) (v:=?ve4) rfl (by kernel_rfl) (by kernel_rfl) (by kernel_rfl) (by rfl) (fun _ _ _ h=>h) (Or.inl ⟨by rfl,?ye4⟩) True.intro ?_
   case ye4=>exact zzR3
   try simp only[qA,List.getElem_toArray,List.getElem_cons_zero,List.getElem_cons_succ]
   refine anyT_takeN (i:=5) (v:=?ve5) rfl (by kernel_rfl) (by kernel_rfl) (by kernel_rfl) (by rfl) (fun _ _ _ h=>h) (Or.inl ⟨by rfl,?ye5⟩) True.intro ?_
   case ye5=>exact zzR3
   try simp only[qA,List.getElem_toArray,List.getElem_cons_zero,List.getElem_cons_succ]
   refine qO 6 rfl fun K hK=>?_
   go_simp
   refine hK.out _ _ (.inr True.intro) ?_
   clear hK
   try simp only[qA,List.getElem_toArray,List.getElem_cons_zero,List.getElem_cons_succ]
   refine qD ?_
   rw[←hbv]
   clear hbv
   have HJ2:Hid (MatO (wr.setCell ⟨ρ k,k+1,none⟩ (.bool bv)).drew.drew w.heap.size g cp (s.size+1) (s.size+1) ρ γ (upd2 f k (k+1) bv)∧(∀i j,i≤j→j<s.size+1→upd2 f k (k+1) bv i j=(decide (j=i+1) && (((sb s)[i]?).map (fun x=>x==c)).getD false && decide (i<k+1)))∧Below w.heap.size w (wr.setCell ⟨ρ k,k+1,none⟩ (.bool bv)).drew.drew):=by
    refine⟨(HJ.1.set hkk (by omega) bv).below ((Below.refl _ _).drew.drew),fun i j hij hj=>?_,(below_set HJ.2.2 (HJ.1.row k hkk).lt.1 _ _).drew.drew⟩
    unfold upd2
    by_cases e:i=k∧j=k+1
    ·rw[if_pos e,e.1,e.2,HX.out,HV.out];simp
    ·rw[if_neg e,HJ.2.1 i j hij hj]
     by_cases e2:j=i+1
     ·have h1:i≠k:=fun q=>e ⟨q,by omega⟩
      have h2:decide (i<k)=decide (i<k+1):=by rw[decide_eq_decide];omega
      rw[h2]
     ·simp[e2]
   exact zzQ44
  ·exact zzQ39
end Go.Proofs.YtkidabedcgngcaaGreatDoor
