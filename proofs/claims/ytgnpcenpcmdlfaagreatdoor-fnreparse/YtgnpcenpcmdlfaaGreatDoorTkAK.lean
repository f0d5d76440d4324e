import Derived.Test.YtgnpcenpcmdlfaaGreatDoorTkAA
import Derived.Test.YtgnpcenpcmdlfaaGreatDoorTkAI
import Derived.Test.YtgnpcenpcmdlfaaGreatDoorTkAJ
import Derived.BigQuiet
import Derived.Test.YtgnpcenpcmdlfaaGreatDoorTkAB
import Derived.Deep.CutBlock
import Derived.Test.YtgnpcenpcmdlfaaGreatDoorTkAD
import Derived.Lib.AppendZeros
import Derived.Deep.LoopGhost
namespace Go.Proofs.YtgnpcenpcmdlfaaGreatDoor
open Go.ChangeShapes Go.WideShapes Go.ChangeAt Go.RowKit Go.Deep Go.Shelf
set_option linter.unusedVariables false
set_option linter.unusedSimpArgs false
set_option maxRecDepth 100000
set_option maxHeartbeats 32000000
def yF6 (w:World):Prop:=∃ev,w.cell? ⟨3,0,none⟩=some ev∧(ev=.nilIface∨∃te pe,ev=.iface te pe)
variable {S:Nat→Prop} {w w':World}
theorem yF6.chg (h:yF6 w) (hc:Chg S w w') (hn:¬S 3):yF6 w':=by
 obtain⟨ev,h1,h2⟩:=h;have hlt:3<w.heap.size:=by
  unfold World.cell? at h1;by_cases q:3<w.heap.size
  ·exact q
  ·rw[Array.getElem?_eq_none (by show w.heap.size≤3;omega)]at h1;simp at h1
 exact⟨ev,(hc.cell (p:=⟨3,0,none⟩) hlt hn).trans h1,h2⟩
theorem yMu:∀(l:List UInt8) (n:Nat),(∀x∈l,yA1 x=true)→n≤18446744073709551615→Lib.parseUintM 18446744073709551615 n l=if l.foldl (fun n b=>10*n+(b.toNat-48)) n≤18446744073709551615 then .ok (l.foldl (fun n b=>10*n+(b.toNat-48)) n)else .range
 | [],n,_,hn=>by unfold Lib.parseUintM;simp[hn]
 |c::l,n,hd,hn=>by
  have hc:=(yEp c).1 (hd c (by simp))
  have hle:=yFx l (10*n+(c.toNat-48))
  rw[List.foldl_cons]
  unfold Lib.parseUintM
  rw[if_pos hc]
  by_cases h1:1844674407370955162≤n
  ·rw[if_pos h1,if_neg (by omega)]
  ·rw[if_neg h1]
   by_cases h2:18446744073709551615<n*10+(c.toNat-48)
   ·rw[if_pos h2,if_neg (by omega)]
   ·rw[if_neg h2,show n*10+(c.toNat-48)=10*n+(c.toNat-48)by omega]
    exact yMu l _ (fun x hx=>hd x (by simp[hx])) (by omega)
theorem yS {s:ByteArray} {d:List UInt8} (hs:s.data.toList=d) (hd:∀x∈d,yA1 x=true) (hne:d≠ []):Lib.parseUintB 64 s.data.toList=if decV d<2^64 then .ok (decV d)else .range:=by
 rw[hs];unfold Lib.parseUintB;rw[if_neg hne,show 2^64-1=18446744073709551615 by decide,yMu d 0 hd (by omega)];show(if decV d≤_ then Lib.NumEnd.ok (decV d)else _)=_;by_cases h:decV d<2^64
 ·rw[if_pos h,if_pos (by omega)]
 ·rw[if_neg h,if_neg (by omega)]
def NoP (d:List UInt8) (w:World) (e:Ending) (w':World):Prop:=Hid (Below w.heap.size w w')∧((∃v:Nat,numM d=some v∧e=.returned (.tuple #[.int .u64 (v:Int),.bool true]))∨(numM d=none∧∃x:Int,e=.returned (.tuple #[.int .u64 x,.bool false])))
theorem yQi (s:ByteArray) (d:List UInt8) (w:World) (hs:s.data.toList=d) (hd:∀x∈d,yA1 x=true) (hne:d≠ []) (hl:d.length≤100000) (hE:yF6 w):Calls Tryz.prog 90 #[.string s] w (NoP d w):=by
 have hsz:s.size=d.length:=by rw[←hs];simp
 have HP:Hid (Lib.parseUintB 64 s.data.toList=if decV d<2^64 then .ok (decV d)else .range):=yS hs hd hne;have h0:0<d.length:=by cases d<;>simp_all
 obtain⟨x,hx⟩:∃x,d[0]?=some x:=⟨_,List.getElem?_eq_getElem h0⟩;have hh:d.head?=some x:=by rw[←hx];cases d<;>rfl
 have h0s:0<s.size:=by omega
 have gx:s[0]'h0s=x:=by have:=hx;rw[←hs]at this;exact(yD4 (s:=s) (i:=0) this).2
 have HM:Hid ((1<s.size∧x.toNat=48→numM d=none)∧(¬(1<s.size∧x.toNat=48)→numM d=if decV d<2^64 then some (decV d)else none)):=by
  refine⟨fun q=>?_,fun q=>?_⟩
  ·unfold numM;rw[if_pos ⟨by omega,by rw[hh];congr 1;exact UInt8.toNat_inj.1 q.2⟩]
  ·unfold numM;rw[if_neg (fun z=>q ⟨by omega,by rw[hh]at z;cases z.2;rfl⟩)]
 have HC:Hid (∀wx,yF6 wx→Calls Tryz.prog 112 #[.string s,.int .i64 10,.int .i64 64] wx fun e w'=>Below wx.heap.size wx w'∧((decV d<2^64∧e=.returned (.tuple #[.int .u64 (decV d:Int),.nilIface]))∨(¬decV d<2^64∧∃N:Nat,e=.returned (.tuple #[.int .u64 18446744073709551615,.iface 176 (.pointer (some ⟨N,0,none⟩))])))):=fun wx hx=>by
  by_cases hv:decV d<2^64
  ·have h9:=Any.strconv_ParseUint_10_at64_ok Tryz.laysPu s (by omega) (decV d) (by rw[HP.out,if_pos hv]) wx;refine h9.mono ?_;rintro e w' ⟨rfl,hw⟩;refine⟨?_,.inl ⟨hv,rfl⟩⟩;rcases hw with rfl|rfl
   ·exact Below.refl _ _
   ·exact Lib.bytesWorld_below _ _ _
  ·obtain⟨ev,e1,e2⟩:=hx;have h9:=Any.strconv_ParseUint_10_at64_range Tryz.laysPu s (by omega) (by rw[HP.out,if_neg hv]) ev wx e1 e2;refine h9.mono ?_;rintro e w' ⟨N,rfl,_,_,hb⟩;exact⟨hb,.inr ⟨hv,N,rfl⟩⟩
 obtain⟨v,hv⟩:=qE (decV d);rw[←hv]at HM HC;have HEr:Hid (yF6 w):=hE;clear hs hd hne h0 hx hh HP hE hv;obtain⟨m,hm⟩:=qE s.size;by_cases h1:1<s.size
 ·have z1:(1:Int)<(s.size:Int):=by omega
  by_cases h48:x.toNat=48
  ·have z48:((x.toNat:Int)==48)=true:=by have:(x.toNat:Int)=48:=(by omega);simp[this]
   have HN:Hid (numM d=none):=HM.1 ⟨h1,h48⟩;clear h48 hm;go_enter Tryz.func90,Tryz.ntmps90;go_wp2_with fail;exact bodyPost_ret (v:=.tuple #[.int .u64 0,.bool false]) (by simp[results,Tryz.results90,go_sem]) rfl ⟨Below.refl _ _,.inr ⟨HN.out,0,rfl⟩⟩
  ·have z48:((x.toNat:Int)==48)=false:=by have:¬(x.toNat:Int)=48:=(by omega);simp[this]
   have HN:Hid (numM d=if v<2^64 then some v else none):=HM.2 (fun q=>h48 q.2);clear h48 hm;exact zzQ22
 ·have z1:¬(1:Int)<(s.size:Int):=by omega
  have HN:Hid (numM d=if v<2^64 then some v else none):=HM.2 (fun q=>h1 q.1);clear hm;exact zzQ22
def NmbP (base g b off n cap i:Nat) (vs:List Value) (wd:List UInt8) (w:World) (e:Ending) (w':World):Prop:=Hid (Chg (fun k=>k=g) w w')∧((∃v:Nat,numM wd=some v∧e=.returned (.int .u64 (v:Int))∧FsAt w' base g b off n cap (i+wd.length) vs)∨(numM wd=none∧e=Pf 2 i))
variable {base g b off n cap i:Nat} {vs:List Value} {t:List UInt8}
theorem yU9 (h:FsAt w base g b off n cap i vs) (hT:yAe w b off t) (hn:n=t.length) (hl:n≤100000) (hc:n≤cap) (hcm:cap≤maxLen) (hi:i<n) (hx:∀x,t[i]?=some x→yA1 x=true) (hE:yF6 w):
  Calls Tryz.prog 58 #[.pointer (some ⟨g,0,none⟩)] w (NmbP base g b off n cap i vs ((t.drop i).takeWhile yA1) w):=by
 obtain⟨wd,hwd⟩:=qE ((t.drop i).takeWhile yA1);have hne:wd≠ []:=by obtain⟨x,hxx⟩:∃x,t[i]?=some x:=⟨_,List.getElem?_eq_getElem (by omega)⟩;rw[hwd,yAf hxx,List.takeWhile_cons,if_pos (hx x hxx)];simp
 have hlt:∀x∈wd,yA1 x=true:=fun x hm=>by rw[hwd]at hm;exact List.all_eq_true.1 (List.all_takeWhile (p:=yA1) (l:=t.drop i)) x hm
 have hwl:wd.length≤n:=by rw[hwd,hn];exact Nat.le_trans (yDw _ _) (by rw[List.length_drop];omega)
 have HR:Hid (Calls Tryz.prog 89 #[.pointer (some ⟨g,0,none⟩),.func (Fn.func 57) #[] #[]] w fun e w'=>e=.returned (.string (strL wd))∧Below w.heap.size w w'):=by rw[hwd];exact yYv h hT hn hl hc hcm hi
 rw[←hwd];have H0:Hid (FsAt w base g b off n cap i vs):=h;obtain⟨sw,hsw⟩:=qE (strL wd);have HSW:Hid (sw.size=wd.length):=by show _=_;rw[hsw];show wd.toArray.size=_;simp
 have HNu:Hid (∀wx,Below w.heap.size w wx→Calls Tryz.prog 90 #[.string sw] wx (NoP wd wx)):=fun wx hb=>yQi sw wd wx (by rw[hsw]) hlt hne (by omega) (hE.chg (S:=fun _=>False) (Chg.of_below hb) (fun q=>q));rw[←hsw]at HR;have hsl:sw.size≤n:=by rw[HSW.out];exact hwl
 clear h hT hn hx hE hne hlt hwd hc hcm hsw hwl;go_enter Tryz.func58,Tryz.ntmps58;go_wp2_with fail;refine HR.mono ?_;rintro e w1 ⟨rfl,hb1⟩;have HB1:Hid (Below w.heap.size w w1):=hb1;clear hb1 HR;go_wp2_with fail;refine(HNu.out w1 HB1.out).mono ?_;rintro e w2 ⟨Hb2,(⟨v,hv,rfl⟩|⟨hv,x,rfl⟩)⟩
 ·have H2:Hid (FsAt w2 base g b off n cap i vs∧Chg (fun k=>k=g) w w2∧numM wd=some v):=⟨yA.below H0.out (HB1.trans (Hb2.mono HB1.size)),Chg.of_below (HB1.trans (Hb2.mono HB1.size)),hv⟩;have c1:=H2.1.cell (j:=1) rfl;have f1:=H2.1.frozen 1;clear hv HNu;have zw:IntKind.i64.wrap ((i:Int)+(sw.size:Int))=(i:Int)+(sw.size:Int):=wrap64 (by omega) (by omega);have HF:Hid (FsAt (w2.setCell ⟨g,1,none⟩ (.int .i64 ((i:Int)+(sw.size:Int)))) base g b off n cap (i+wd.length) vs∧Chg (fun k=>k=g) w (w2.setCell ⟨g,1,none⟩ (.int .i64 ((i:Int)+(sw.size:Int))))):=⟨by have h9:=H2.1.move (i+wd.length) (.int .i64 ((i:Int)+(sw.size:Int))) (by rw[HSW.out];congr 1);exact h9,H2.2.1.trans (Chg.of_set _ _ _ _ rfl)⟩;go_wp2_with fail;refine(yBo _ w2).mono ?_;rintro e w3 ⟨rfl,hw3⟩;rw[hw3];clear hw3;go_wp2_with fail;go_ret;exact⟨HF.2,.inl ⟨v,H2.2.2,rfl,HF.1⟩⟩
 ·have H2:Hid (FsAt w2 base g b off n cap i vs∧Chg (fun k=>k=g) w w2∧numM wd=none):=⟨yA.below H0.out (HB1.trans (Hb2.mono HB1.size)),Chg.of_below (HB1.trans (Hb2.mono HB1.size)),hv⟩;clear hv HNu;go_wp2_with fail;refine(yEx H2.1).mono ?_;rintro e w3 ⟨rfl,hw3⟩;rw[hw3];clear hw3;exact⟨rfl,H2.2.1,.inr ⟨H2.2.2,rfl⟩⟩
def hexS:ByteArray:=⟨#[48,49,50,51,52,53,54,55,56,57,97,98,99,100,101,102]⟩
theorem yVv:∀n:Fin 256,Lib.indexByte [48,49,50,51,52,53,54,55,56,57,97,98,99,100,101,102] (UInt8.ofNat n.val)=hexI (UInt8.ofNat n.val):=by decide
theorem yZm (c:UInt8):Lib.indexByte (sb hexS) c=hexI c:=by
 have h:=yVv ⟨c.toNat,c.toNat_lt⟩;have e:UInt8.ofNat c.toNat=c:=by simp
 rw[show UInt8.ofNat (⟨c.toNat,c.toNat_lt⟩:Fin 256).val=c from e]at h;exact h
def escM (l:List UInt8):Option (UInt8×Nat):=match l with
 |_::c::r=>if c=34∨c=92 then some (c,2)else if c=120 then(match r with
   |h::q::_=>(match hexV h,hexV q with
    |some x,some y=>some (UInt8.ofNat (16*x+y),4)
    |_,_=>none)
   |_=>none)else none
 |_=>none
theorem yO2 (l:List UInt8):strM (92::l)=(match escM (92::l)with
  |some (b,k)=>(strM ((92::l).drop k)).map (fun z=>(b::z.1,z.2+k))
  |none=>none):=by
 cases l with
 |nil=>rfl
 |cons c r=>
  by_cases h:c=34∨c=92
  ·rw[yN6 h];have:escM (92::c::r)=some (c,2):=by unfold escM;dsimp only;rw[if_pos h]
   rw[this];rfl
  ·by_cases hx:c=120
   ·subst hx;rw[yUl];match r with
    | []=>rfl
    | [a]=>rfl
    |a::e::r=>
     have he:escM (92::120::a::e::r)=(match hexV a,hexV e with
      |some x,some y=>some (UInt8.ofNat (16*x+y),4)
      |_,_=>none):=by unfold escM;dsimp only;rw[if_neg (by decide),if_pos rfl]
     rw[he];dsimp only;cases hexV a<;>cases hexV e<;>rfl
   ·rw[yN4 h hx];have:escM (92::c::r)=none:=by unfold escM;dsimp only;rw[if_neg h,if_neg hx]
    rw[this]
theorem yZv (r:List UInt8):escM (92::120::r)=(match r with
   |h::q::_=>(match hexV h,hexV q with
    |some x,some y=>some (UInt8.ofNat (16*x+y),4)
    |_,_=>none)
   |_=>none):=by unfold escM;dsimp only;rw[if_neg (by decide),if_pos rfl]
variable {r:List UInt8}
theorem yTf (h:r.length<2):escM (92::120::r)=none:=by
 rw[yZv];match r,h with
 | [],_=>rfl
 | [a],_=>rfl
theorem yNi {u v:UInt8} (h:hexV u=none∨hexV v=none):escM (92::120::u::v::r)=none:=by
 rw[yZv];dsimp only;rcases h with q|q
 ·rw[q]
 ·rw[q];cases hexV u<;>rfl
variable {p:Nat}
theorem yZw {u v:UInt8} {q:Nat} (h1:hexV u=some p) (h2:hexV v=some q):escM (92::120::u::v::r)=some (UInt8.ofNat (16*p+q),4):=by rw[yZv];dsimp only;rw[h1,h2]
def EscP (l:List UInt8) (i:Nat) (w:World) (e:Ending) (w':World):Prop:=w'=w∧((∃(x:UInt8) (k:Nat),escM l=some (x,k)∧e=.returned (.tuple #[.int .u8 (x.toNat:Int),.int .i64 (k:Int)]))∨(escM l=none∧e=Pf 2 i))
theorem or16F:∀p q:Fin 16,bits .or .i64 ((p.val:Int)*16) (q.val:Int)=((16*p.val+q.val:Nat):Int):=by decide
theorem or16 {q:Nat} (hp:p<16) (hq:q<16):bits .or .i64 ((p:Int)*16) (q:Int)=((16*p+q:Nat):Int):=or16F ⟨p,hp⟩ ⟨q,hq⟩
variable {l:List UInt8}
theorem yOi (h:FsAt w base g b off n cap i vs) (o c:Nat) (hT:yAe w b o (92::l)) (hl:l.length≤100000):
  Calls Tryz.prog 91 #[.pointer (some ⟨g,0,none⟩),.slice (some ⟨b,o,none⟩) (l.length+1) c] w (EscP (92::l) i w):=by
 have HF:Hid (FsAt w base g b off n cap i vs):=h;have HT:Hid (yAe w b o (92::l)):=hT;clear h hT;cases l with
 |nil=>
  go_enter Tryz.func91,Tryz.ntmps91;go_wp2_with fail;refine(yEx HF.out).mono ?_;rintro e w2 ⟨rfl,hw2⟩;rw[hw2];clear hw2;exact⟨rfl,rfl,.inr ⟨rfl,rfl⟩⟩
 |cons y r=>
  have cy:w.cell? ⟨b,o+1,none⟩=some (.int .u8 (y.toNat:Int)):=HT.out 1 y rfl;obtain⟨m,hm⟩:=qE r.length;have HM:Hid (m=r.length):=hm;rw[List.length_cons,←hm]at hl⊢;clear hm;have z2:(2:Int)≤(m:Int)+1+1:=by omega
  have hy8:y.toNat<256:=y.toNat_lt;by_cases h34:y.toNat=34
  ·have z34:((y.toNat:Int)==34)=true:=by have:(y.toNat:Int)=34:=(by omega);simp[this]
   have HE:Hid (escM (92::y::r)=some (y,2)):=by show _=_;unfold escM;dsimp only;rw[if_pos (.inl (UInt8.toNat_inj.1 h34))]
   clear h34;go_enter Tryz.func91,Tryz.ntmps91;go_wp2_with (go_at_call 62;refine(yBo _ w).mono ?_;rintro e w2 ⟨rfl,hw2⟩;rw[hw2];clear hw2);exact bodyPost_ret (v:=.tuple #[.int .u8 (y.toNat:Int),.int .i64 2]) (by simp[results,Tryz.results91,go_sem]) rfl ⟨rfl,.inl ⟨y,2,HE.out,rfl⟩⟩
  have z34:((y.toNat:Int)==34)=false:=by have:¬(y.toNat:Int)=34:=(by omega);simp[this]
  by_cases h92:y.toNat=92
  ·have z92:((y.toNat:Int)==92)=true:=by have:(y.toNat:Int)=92:=(by omega);simp[this]
   have HE:Hid (escM (92::y::r)=some (y,2)):=by show _=_;unfold escM;dsimp only;rw[if_pos (.inr (UInt8.toNat_inj.1 h92))]
   clear h34 h92;go_enter Tryz.func91,Tryz.ntmps91;go_wp2_with (go_at_call 62;refine(yBo _ w).mono ?_;rintro e w2 ⟨rfl,hw2⟩;rw[hw2];clear hw2);exact bodyPost_ret (v:=.tuple #[.int .u8 (y.toNat:Int),.int .i64 2]) (by simp[results,Tryz.results91,go_sem]) rfl ⟨rfl,.inl ⟨y,2,HE.out,rfl⟩⟩
  have z92:((y.toNat:Int)==92)=false:=by have:¬(y.toNat:Int)=92:=(by omega);simp[this]
  have hno:¬(y=34∨y=92):=fun q=>by rcases q with q|q<;>subst q<;>first|exact h34 rfl|exact h92 rfl
  by_cases h120:y.toNat=120;case neg=>
   have z120:((y.toNat:Int)==120)=false:=by have:¬(y.toNat:Int)=120:=(by omega);simp[this]
   have HE:Hid (escM (92::y::r)=none):=by show _=_;unfold escM;dsimp only;rw[if_neg hno,if_neg (fun q=>h120 (by rw[q];rfl))]
   clear h34 h92 h120 hno;go_enter Tryz.func91,Tryz.ntmps91;go_wp2_with fail;refine(yBo _ w).mono ?_;rintro e w2 ⟨rfl,hw2⟩;rw[hw2];clear hw2;go_wp2_with fail;refine(yEx HF.out).mono ?_;rintro e w2 ⟨rfl,hw2⟩;rw[hw2];clear hw2;exact⟨rfl,rfl,.inr ⟨HE.out,rfl⟩⟩
  case pos=>
  have z120:((y.toNat:Int)==120)=true:=by have:(y.toNat:Int)=120:=(by omega);simp[this]
  have hy120:y=120:=UInt8.toNat_inj.1 h120;have HX:Hid (y=120):=hy120;clear h34 h92 h120 hno hy120;by_cases h4:m<2
  ·have z4:decide ((4:Int)≤(m:Int)+1+1)=false:=decide_eq_false (by omega);have z4b:(m:Int)+1+1<4:=by omega
   have HE:Hid (escM (92::y::r)=none):=by show _=_;rw[HX.out];exact yTf (by rw[←HM.out];exact h4)
   go_enter Tryz.func91,Tryz.ntmps91;go_wp2_with fail;refine(yBo _ w).mono ?_;rintro e w2 ⟨rfl,hw2⟩;rw[hw2];clear hw2;go_wp2_with fail;refine(yEx HF.out).mono ?_;rintro e w2 ⟨rfl,hw2⟩;rw[hw2];clear hw2;exact⟨rfl,rfl,.inr ⟨HE.out,rfl⟩⟩
  have z4:(4:Int)≤(m:Int)+1+1:=by omega
  obtain⟨u,v,r2,rfl⟩:∃u v r2,r=u::v::r2:=by
   match r,HM.out with
   | [],q=>simp at q;omega
   | [a],q=>simp at q;omega
   |a::e::r,_=>exact⟨a,e,r,rfl⟩
  have cu:w.cell? ⟨b,o+2,none⟩=some (.int .u8 (u.toNat:Int)):=HT.out 2 u rfl;have cv:w.cell? ⟨b,o+3,none⟩=some (.int .u8 (v.toNat:Int)):=HT.out 3 v rfl;have y2:(2:Int)<(m:Int)+1+1:=by omega
  have y3:(3:Int)<(m:Int)+1+1:=by omega
  have HCu:Hid (∀z:UInt8,Calls Tryz.prog 61 #[.string ⟨#[48,49,50,51,52,53,54,55,56,57,97,98,99,100,101,102]⟩,.int .u8 (z.toNat:Int)] w fun e w'=>e=.returned (.int .i64 (hexI z))∧w'=w):=fun z=>by have h9:=yCq hexS z w;rw[yZm]at h9;exact h9
  cases hxu:hexV u with
  |none=>
   have z5:¬(0:Int)≤hexI u:=by rw[yHs hxu];omega
   have HE:Hid (escM (92::y::u::v::r2)=none):=by show _=_;rw[HX.out];exact yNi (.inl hxu)
   go_enter Tryz.func91,Tryz.ntmps91;go_wp2_with fail;refine(yBo _ w).mono ?_;rintro e w2 ⟨rfl,hw2⟩;rw[hw2];clear hw2;go_wp2_with fail;refine(yBo _ w).mono ?_;rintro e w2 ⟨rfl,hw2⟩;rw[hw2];clear hw2;go_wp2_with fail;refine(HCu.out u).mono ?_;rintro e w2 ⟨rfl,hw2⟩;rw[hw2];clear hw2;go_wp2_with fail;refine(HCu.out v).mono ?_;rintro e w2 ⟨rfl,hw2⟩;rw[hw2];clear hw2;go_wp2_with fail;refine(yEx HF.out).mono ?_;rintro e w2 ⟨rfl,hw2⟩;rw[hw2];clear hw2;exact⟨rfl,rfl,.inr ⟨HE.out,rfl⟩⟩
  |some p=>
   have z5:(0:Int)≤hexI u:=by rw[yCf hxu];omega
   cases hxv:hexV v with
   |none=>
    have z6b:decide ((0:Int)≤hexI v)=false:=decide_eq_false (by rw[yHs hxv];omega);have HE:Hid (escM (92::y::u::v::r2)=none):=by show _=_;rw[HX.out];exact yNi (.inr hxv)
    go_enter Tryz.func91,Tryz.ntmps91;go_wp2_with fail;refine(yBo _ w).mono ?_;rintro e w2 ⟨rfl,hw2⟩;rw[hw2];clear hw2;go_wp2_with fail;refine(yBo _ w).mono ?_;rintro e w2 ⟨rfl,hw2⟩;rw[hw2];clear hw2;go_wp2_with fail;refine(HCu.out u).mono ?_;rintro e w2 ⟨rfl,hw2⟩;rw[hw2];clear hw2;go_wp2_with fail;refine(HCu.out v).mono ?_;rintro e w2 ⟨rfl,hw2⟩;rw[hw2];clear hw2;go_wp2_with fail;refine(yEx HF.out).mono ?_;rintro e w2 ⟨rfl,hw2⟩;rw[hw2];clear hw2;exact⟨rfl,rfl,.inr ⟨HE.out,rfl⟩⟩
   |some q=>
    have z6:(0:Int)≤hexI v:=by rw[yCf hxv];omega
    have hpl:=yL0 hxu;have hql:=yL0 hxv;obtain⟨z,hz⟩:=qE (UInt8.ofNat (16*p+q):UInt8);have hzn:z.toNat=16*p+q:=by rw[hz,UInt8.toNat_ofNat'];omega
    have HE:Hid (escM (92::y::u::v::r2)=some (z,4)):=by show _=_;rw[HX.out,hz];exact yZw hxu hxv
    have HZ:Hid (bits .or .i64 (hexI u*16) (hexI v)=(z.toNat:Int)):=by show _=_;rw[yCf hxu,yCf hxv,or16 hpl hql,hzn]
    have z7:hexI u<16:=by rw[yCf hxu];omega
    have z8:hexI v<16:=by rw[yCf hxv];omega
    clear hz hzn hpl hql hxu hxv;go_enter Tryz.func91,Tryz.ntmps91;go_wp2_with fail;refine(yBo _ w).mono ?_;rintro e w2 ⟨rfl,hw2⟩;rw[hw2];clear hw2;go_wp2_with fail;refine(yBo _ w).mono ?_;rintro e w2 ⟨rfl,hw2⟩;rw[hw2];clear hw2;go_wp2_with fail;refine(HCu.out u).mono ?_;rintro e w2 ⟨rfl,hw2⟩;rw[hw2];clear hw2;go_wp2_with fail;refine(HCu.out v).mono ?_;rintro e w2 ⟨rfl,hw2⟩;rw[hw2];clear hw2;go_wp2_with fail;refine(yBo _ w).mono ?_;rintro e w2 ⟨rfl,hw2⟩;rw[hw2];clear hw2;have hz256:z.toNat<256:=z.toNat_lt;have hw16:IntKind.i64.wrap (hexI u*16)=hexI u*16:=wrap64 (by omega) (by omega);have HZ2:=HZ.out;have hzz:(z.toNat:Int)%256=(z.toNat:Int):=by omega
    go_wp2_with fail;exact bodyPost_ret (v:=.tuple #[.int .u8 (z.toNat:Int),.int .i64 4]) (by simp[results,Tryz.results91,go_sem]) rfl ⟨rfl,.inl ⟨z,4,HE.out,rfl⟩⟩
def SstP (base g b off n cap i:Nat) (vs:List Value) (l:List UInt8) (w:World) (e:Ending) (w':World):Prop:=Hid (Chg (fun k=>k=g) w w')∧((∃(c:List UInt8) (k:Nat),quF l=some (c,k)∧e=.returned (.string (strL c))∧FsAt w' base g b off n cap (i+1+k) vs)∨(quF l=none∧e=Pf 2 i))
structure SstJ (w:World) (base g b off n cap i:Nat) (vs:List Value) (t:List UInt8) (j m gc cp:Nat) (X:List UInt8) (wr:World):Prop where
 fs:FsAt wr base g b off n cap i vs
 bys:yAe wr b off t
 qu:QuS t i j X
 wb:WrB wr w.heap.size gc cp X
 below:Below w.heap.size w wr
 len:m=X.length
 bl:b<wr.heap.size
variable {wr':World}
theorem SstJ.up {j m gc cp:Nat} {X:List UInt8} {wr:World} (h:SstJ w base g b off n cap i vs t j m gc cp X wr) (hb:Below wr.heap.size wr wr'):SstJ w base g b off n cap i vs t j m gc cp X wr':=
 ⟨yA.below h.fs hb,fun k y hk=>by rw[hb.cell (p:=⟨b,off+k,none⟩) h.bl];exact h.bys k y hk,h.qu,h.wb.below hb,h.below.trans (hb.mono h.below.size),h.len,by have:=hb.size;have:=h.bl;omega⟩
theorem yV6 {y:UInt8} {k:Nat} (h:escM l=some (y,k)):1≤k∧k≤l.length:=by
 match l with
 | []=>cases h
 | [a]=>cases h
 |a::c::r=>
  unfold escM at h;dsimp only at h;split at h
  ·cases h;simp
  ·split at h
   ·match r with
    | []=>cases h
    | [u]=>cases h
    |u::v::r=>
     dsimp only at h;cases h1:hexV u with
     |none=>rw[h1]at h;cases h
     |some p=>
      cases h2:hexV v with
      |none=>rw[h1,h2]at h;cases h
      |some q=>rw[h1,h2]at h;cases h;simp
   ·cases h
def yYt:Value→Nat
 | .slice _ n _=>n
 |_=>0
theorem yUm (h:FsAt w base g b off n cap i vs) (hT:yAe w b off t) (hb:b<w.heap.size) (hn:n=t.length) (hl:n≤100000) (hc:n≤cap) (hcm:cap≤maxLen) (hi:i<n):
  Calls Tryz.prog 59 #[.pointer (some ⟨g,0,none⟩)] w (SstP base g b off n cap i vs (t.drop (i+1)) w):=by
 have HN:Hid (n=t.length):=hn;have hgl:=h.lt;unfold maxLen at hcm;obtain⟨W0,hW0⟩:=qE (w.alloc (Obj.cells #[] 5):World);have hb0:Below w.heap.size w W0:=by rw[hW0];exact qB
 have HW0:Hid (SstJ w base g b off n cap i vs t (i+1) 0 w.heap.size 0 [] W0∧Below w.heap.size w W0):=by refine⟨⟨yA.below h hb0,fun k y hk=>by rw[hb0.cell (p:=⟨b,off+k,none⟩) hb];exact hT k y hk,QuS.start t i,?_,hb0,rfl,by have:=hb0.size;omega⟩,hb0⟩;rw[hW0];exact(yHd w (Nat.le_refl _)).wr
 obtain⟨c0,c1⟩:=HW0.1.fs.c2;clear h hT hn hb0;go_enter Tryz.func59,Tryz.ntmps59;go_wp2_with fail;go_step3;go_wp2_with fail;rw[←hW0];clear hW0;have zi1:(i:Int)+1≤(n:Int):=by omega
 have znc:(n:Int)≤(cap:Int):=by omega
 have hw1:IntKind.i64.wrap ((i:Int)+1)=(i:Int)+1:=wrap64 (by omega) (by omega);have hi1:(0:Int)≤(i:Int)+1:=by omega
 have ht1:((i:Int)+1).toNat=i+1:=by omega
 go_quiet (fail);obtain⟨W1,hW1⟩:=qE (W0.drewN nq:World);have HW1:Hid (SstJ w base g b off n cap i vs t (i+1) 0 w.heap.size 0 [] W1):=by
  have hbq:Below W0.heap.size W0 W1:=by rw[hW1];exact below_drewN (Below.refl _ _) _
  exact HW0.1.up hbq
 obtain⟨a,ha⟩:∃a:Option Addr,(if cap=i+1 then(some ⟨b,off,none⟩:Option Addr)else some ⟨b,off+(i+1),none⟩)=a:=⟨_,rfl⟩;have HAd:Hid (i+1<n→a=some ⟨b,off+(i+1),none⟩):=fun q=>by rw[←ha,if_neg (by omega)]
 rw[←hW1,ha];clear hW1 ha c0 c1 HW0;go_wp2_with fail;go_step3;go_wp2_with fail;go_loopw[3,4] (fun cv rv wr=>∃(j m gc cp ca:Nat) (a:Option Addr) (X:List UInt8),cv=.slice (some ⟨gc,0,none⟩) m cp∧rv=.slice a (n-j) ca∧i+1≤j∧j≤n∧m≤j∧(j<n→a=some ⟨b,off+j,none⟩∧ca=cap-j)∧SstJ w base g b off n cap i vs t j m gc cp X wr) (fun _ rv _=>yYt rv);case atStart=>exact⟨i+1,0,w.heap.size,0,cap-(i+1),a,[],rfl,rfl,Nat.le_refl _,by omega,by omega,fun q=>⟨HAd.out q,rfl⟩,HW1.out⟩
 case round=>
  clear HW1 HAd;obtain⟨j,m,gc,cp,ca,a1,X,rfl,rfl,hij,hjn,hmj,ha1,hJ⟩:=hrel;have HJ:Hid (SstJ w base g b off n cap i vs t j m gc cp X wr):=hJ;have sr:=hJ.below.size;have hgc:=hJ.wb.lt;have hge:=hJ.wb.le;have HCg:Hid (Chg (fun k=>k=g) w wr):=Chg.of_below hJ.below;clear hJ;have die:quF (t.drop (i+1))=none→Hid (SstP base g b off n cap i vs (t.drop (i+1)) w (Pf 2 i) wr):=fun q=>⟨HCg.out,.inr ⟨q,rfl⟩⟩;by_cases hj:j<n;case neg=>
   obtain rfl:j=n:=by omega
   have HD:=die (yC5 (HJ.qu.none (by rw[HN.out,List.drop_length,yRw])));rw[Nat.sub_self];clear die ha1;exact yXv
  case pos=>
  obtain⟨rfl,rfl⟩:=ha1 hj;obtain⟨r,hr⟩:∃r,n-j=r+1:=⟨n-j-1,by omega⟩;obtain⟨x,hx⟩:∃x,t[j]?=some x:=⟨_,List.getElem?_eq_getElem (by have:=HN.out;omega)⟩;have cx:wr.cell? ⟨b,off+j,none⟩=some (.int .u8 (x.toNat:Int)):=HJ.bys j x hx;have HX:Hid (t[j]?=some x):=hx;have hx8:x.toNat<256:=x.toNat_lt;have hrn:j+r+1=n:=by omega
  rw[hr];clear hx hr ha1;have z0:(0:Int)<(r:Int)+1:=by omega
  have zr:(r:Int)+1≤((cap-j:Nat):Int):=by omega
  have zr1:(1:Int)≤(r:Int)+1:=by omega
  obtain⟨st,hst⟩:=qE (strL X);by_cases h34:x.toNat=34
  ·have z34:((x.toNat:Int)==34)=true:=by have:(x.toNat:Int)=34:=(by omega);simp[this]
   have HX34:Hid (t[j]?=some 34):=by show _=_;rw[HX.out];congr 1;exact UInt8.toNat_inj.1 h34
   have HS:Hid (strM (t.drop (i+1))=some (X,j+1-(i+1))):=HJ.qu.done HX34.out;have HLm:Hid (m=X.length):=HJ.len;clear h34;by_cases h200:m≤200
   ·have z200:(m:Int)≤200:=by omega
    have HE:Hid (quF (t.drop (i+1))=some (X,j+1-(i+1))):=yO8 HS.out (by rw[←HLm.out];exact h200);obtain⟨c0,c1⟩:=HJ.fs.c2;have f1:=HJ.fs.frozen 1;have HF:Hid (FsAt (wr.setCell ⟨g,1,none⟩ (.int .i64 ((j:Int)+1))) base g b off n cap (i+1+(j+1-(i+1))) vs∧Chg (fun k=>k=g) w (wr.setCell ⟨g,1,none⟩ (.int .i64 ((j:Int)+1)))):=by refine⟨?_,HCg.trans (Chg.of_set _ _ _ _ rfl)⟩;rw[show i+1+(j+1-(i+1))=j+1 by omega];exact HJ.fs.move (j+1) _ (by congr 1)
    have hne:¬g=gc:=by omega
    have hcv:(convert 22 9 (.slice (some ⟨gc,0,none⟩) m cp)).run Tryz.prog (wr.setCell ⟨g,1,none⟩ (.int .i64 ((j:Int)+1)))=.ok (.string st) (wr.setCell ⟨g,1,none⟩ (.int .i64 ((j:Int)+1))):=by
     have hby:yAe (wr.setCell ⟨g,1,none⟩ (.int .i64 ((j:Int)+1))) gc 0 X:=fun k y hk=>by rw[(Chg.of_set (S:=fun k=>k=g) wr g 1 _ rfl).cell (p:=⟨gc,0+k,none⟩) hgc (fun q=>hne q.symm)];exact HJ.wb.at_ k y hk
     have h9:=yDk hby 0 m cp (by have:=HLm.out;omega);rw[hst,h9,HLm.out];simp
    have HSt:Hid (st=strL X):=hst;have zz:IntKind.i64.wrap ((n:Int)-((r:Int)+1)+1)=(j:Int)+1:=by rw[wrap64 (by omega) (by omega)];omega
    have zz2:IntKind.i64.wrap ((n:Int)-((r:Int)+1))=(j:Int):=by rw[wrap64 (by omega) (by omega)];omega
    have zz3:IntKind.i64.wrap ((j:Int)+1)=(j:Int)+1:=wrap64 (by omega) (by omega);clear die hst;go_wp2_with fail;refine(yBo _ wr).mono ?_;rintro e w2 ⟨rfl,hw2⟩;rw[hw2];clear hw2;go_wp2_with fail;refine(yBo _ wr).mono ?_;rintro e w2 ⟨rfl,hw2⟩;rw[hw2];clear hw2;go_wp2_with fail;(try rw[Exit.noGoto_ret]);go_ret;exact⟨HF.2,.inl ⟨X,_,HE.out,by rw[←HSt.out];rfl,HF.1⟩⟩
   ·have z200:decide ((m:Int)≤200)=false:=decide_eq_false (by omega);have HD:=die (yO9 HS.out (by rw[←HLm.out];exact h200));clear die hst;go_wp2_with fail;refine(yBo _ wr).mono ?_;rintro e w2 ⟨rfl,hw2⟩;rw[hw2];clear hw2;exact yXv
  have z34:((x.toNat:Int)==34)=false:=by have:¬(x.toNat:Int)=34:=(by omega);simp[this]
  by_cases h92:x.toNat=92
  ·have z92:((x.toNat:Int)==92)=true:=by have:(x.toNat:Int)=92:=(by omega);simp[this]
   have hx92:x=92:=UInt8.toNat_inj.1 h92;have HDr:Hid (t.drop j=92::t.drop (j+1)∧(t.drop (j+1)).length=r):=⟨by rw[yAf HX.out,hx92],by rw[List.length_drop];have:=HN.out;omega⟩;have HEs:Hid (Calls Tryz.prog 91 #[.pointer (some ⟨g,0,none⟩),.slice (some ⟨b,off+j,none⟩) (r+1) (cap-j)] wr (EscP (t.drop j) i wr)):=by
    have hby:yAe wr b (off+j) (92::t.drop (j+1)):=fun k y hk=>by rw[←HDr.1,List.getElem?_drop]at hk;rw[Nat.add_assoc];exact HJ.bys (j+k) y hk
    have h9:=yOi HJ.fs (off+j) (cap-j) hby (by rw[HDr.2];omega);rw[HDr.2,←HDr.1]at h9;exact h9
   clear h34 h92 hx92 hst;go_wp2_with fail;refine(yBo _ wr).mono ?_;rintro e w2 ⟨rfl,hw2⟩;rw[hw2];clear hw2;go_wp2_with fail;refine HEs.mono ?_;rintro e w2 ⟨hw2,(⟨y,k,hk,rfl⟩|⟨hk,rfl⟩)⟩
   ·rw[hw2];clear hw2 HEs;have hkl:1≤k∧k≤r+1:=by have h9:=yV6 hk;rw[List.length_drop]at h9;have:=HN.out;omega
    have HQ:Hid (QuS t i (j+k) (X++ [y])):=HJ.qu.next (k:=k) (by
     have h9:=yO2 (t.drop (j+1))
     rw[←HDr.1,hk]at h9
     rw[h9];dsimp only;rw[List.drop_drop])
    have zk0:(0:Int)≤(k:Int):=by omega
    have zk1:(k:Int)≤(r:Int)+1:=by omega
    clear die hk;obtain⟨W2,hW2⟩:=qE (wr.alloc (Obj.cells #[.int .u8 (y.toNat:Int)] 5):World);have hb2:Below wr.heap.size wr W2:=by rw[hW2];exact qB
    have s2:=hb2.size;have HW2:Hid (SstJ w base g b off n cap i vs t j m gc cp X W2∧yAe W2 wr.heap.size 0 [y]):=by refine⟨HJ.up hb2,?_⟩;rw[hW2];exact yAp wr _ [y] rfl
    have HLm:Hid (m=X.length):=HJ.len;clear hb2;go_wp2_with (at_builtin;(try rw[←hW2]);refine yAa _ rfl _ _ rfl w.heap.size gc cp m wr.heap.size 0 1 1 X [y] rfl rfl HLm.out rfl HW2.1.wb HW2.2 ?hl ?hb ?_);case hl=>first|omega|(rw[←HLm.out];first|(show m+1≤_;omega)|omega)
    case hb=>omega
    intro g' cp' w' hW' hgr hat;have hgr2:W2.grownBy w' (some gc):=by first|exact hgr|(rw[hW2];exact hgr)
    have hbl:=HJ.bl;have HR:Hid (SstJ w base g b off n cap i vs t (j+k) (m+1) g' cp' (X++ [y]) w'):=by have hc3:Chg (fun k=>k=gc) W2 w':=Chg.of_grown hgr2 (fun k hk=>by cases hk;rfl);refine⟨yA.chg HW2.1.fs hc3 (by omega),fun k y hk=>?_,HQ.out,hW',WrB.next HW2.1.below (by omega) hge hgr2,by rw[List.length_append,←HLm.out];rfl,by have:=hc3.size;omega⟩;rw[hc3.cell (p:=⟨b,off+k,none⟩) HW2.1.bl (by show¬b=gc;omega)];exact HW2.1.bys k y hk
    clear hW' hgr hgr2 hat hW2;obtain⟨a2,ha2⟩:∃a2:Option Addr,(if cap-j=k then(some ⟨b,off+j,none⟩:Option Addr)else some ⟨b,off+j+k,none⟩)=a2:=⟨_,rfl⟩;have HA2:Hid (j+k<n→a2=some ⟨b,off+(j+k),none⟩∧cap-j-k=cap-(j+k)):=fun q=>⟨by rw[←ha2,if_neg (by omega),Nat.add_assoc],by omega⟩;have hlen:r+1-k=n-(j+k):=by omega
    go_wp2_with fail;(try rw[ha2]);go_roundw;case rel=>exact⟨j+k,m+1,g',cp',cap-j-k,a2,X++ [y],rfl,by first|rfl|(rw[←hlen];first|rfl|simp)|(congr 1;omega),by omega,by omega,by omega,HA2.out,HR.out⟩
    case measure=>simp[yYt];omega
   ·rw[hw2];clear hw2 HEs;have HD:=die (yC5 (HJ.qu.none (by
     have h9:=yO2 (t.drop (j+1))
     rw[←HDr.1,hk]at h9
     exact h9)))
    clear die hk;exact⟨rfl,HD.out⟩
  have z92:((x.toNat:Int)==92)=false:=by have:¬(x.toNat:Int)=92:=(by omega);simp[this]
  have HPl:Hid (Calls Tryz.prog 92 #[.int .u8 (x.toNat:Int)] wr fun e w'=>e=.returned (.bool (yKj x))∧w'=wr):=yLx x wr;cases hp:yKj x
  case false=>rw[hp]at HPl;have HD:=die (yC5 (HJ.qu.none (by rw[yAf HX.out];exact yN5 (yEv (by show¬x.toNat=34;omega)) (yEv (by show¬x.toNat=92;omega)) (by rw[hp];simp))));clear die hp h34 h92 hst;go_wp2_with fail;refine(yBo _ wr).mono ?_;rintro e w2 ⟨rfl,hw2⟩;rw[hw2];clear hw2;go_wp2_with fail;refine HPl.mono ?_;rintro e w2 ⟨rfl,hw2⟩;rw[hw2];clear hw2 HPl;exact yXv
  case true=>
   rw[hp]at HPl;have HQ:Hid (QuS t i (j+1) (X++ [x])):=HJ.qu.next (k:=1) (by rw[yAf HX.out];exact yRv (yEv (by show¬x.toNat=34;omega)) (yEv (by show¬x.toNat=92;omega)) hp);clear die hp h34 h92 hst;go_wp2_with fail;refine(yBo _ wr).mono ?_;rintro e w2 ⟨rfl,hw2⟩;rw[hw2];clear hw2;go_wp2_with fail;refine HPl.mono ?_;rintro e w2 ⟨rfl,hw2⟩;rw[hw2];clear hw2 HPl;go_wp2_with fail;refine(yBo _ wr).mono ?_;rintro e w2 ⟨rfl,hw2⟩;rw[hw2];clear hw2;obtain⟨W2,hW2⟩:=qE (wr.alloc (Obj.cells #[.int .u8 (x.toNat:Int)] 5):World);have hb2:Below wr.heap.size wr W2:=by rw[hW2];exact qB
   have s2:=hb2.size;have HW2:Hid (SstJ w base g b off n cap i vs t j m gc cp X W2∧yAe W2 wr.heap.size 0 [x]):=by refine⟨HJ.up hb2,?_⟩;rw[hW2];exact yAp wr _ [x] rfl
   have HLm:Hid (m=X.length):=HJ.len;clear hb2;go_wp2_with (at_builtin;(try rw[←hW2]);refine yAa _ rfl _ _ rfl w.heap.size gc cp m wr.heap.size 0 1 1 X [x] rfl rfl HLm.out rfl HW2.1.wb HW2.2 ?hl ?hb ?_);case hl=>first|omega|(rw[←HLm.out];first|(show m+1≤_;omega)|omega)
   case hb=>omega
   intro g' cp' w' hW' hgr hat;have hgr2:W2.grownBy w' (some gc):=by first|exact hgr|(rw[hW2];exact hgr)
   have hbl:=HJ.bl;have HR:Hid (SstJ w base g b off n cap i vs t (j+1) (m+1) g' cp' (X++ [x]) w'):=by have hc3:Chg (fun k=>k=gc) W2 w':=Chg.of_grown hgr2 (fun k hk=>by cases hk;rfl);refine⟨yA.chg HW2.1.fs hc3 (by omega),fun k y hk=>?_,HQ.out,hW',WrB.next HW2.1.below (by omega) hge hgr2,by rw[List.length_append,←HLm.out];rfl,by have:=hc3.size;omega⟩;rw[hc3.cell (p:=⟨b,off+k,none⟩) HW2.1.bl (by show¬b=gc;omega)];exact HW2.1.bys k y hk
   clear hW' hgr hgr2 hat hW2;obtain⟨a2,ha2⟩:∃a2:Option Addr,(if cap-j=1 then(some ⟨b,off+j,none⟩:Option Addr)else some ⟨b,off+j+1,none⟩)=a2:=⟨_,rfl⟩;have HA2:Hid (j+1<n→a2=some ⟨b,off+(j+1),none⟩∧cap-j-1=cap-(j+1)):=fun q=>⟨by rw[←ha2,if_neg (by omega),Nat.add_assoc],by omega⟩;have hlen:r+1-1=n-(j+1):=by omega
   go_wp2_with fail;(try rw[ha2]);go_roundw;case rel=>exact⟨j+1,m+1,g',cp',cap-j-1,a2,X++ [x],rfl,by first|rfl|(rw[←hlen];first|rfl|simp)|(congr 1;omega),by omega,by omega,by omega,HA2.out,HR.out⟩
   case measure=>simp[yYt];omega
variable {c:Nat}
theorem yJ2 {o q c2:Nat} (hl:yAe w b o l) (hq:yAe w q 0 [46,46]) (h2:2≤l.length):
  Calls Tryz.prog 93 #[.slice (some ⟨b,o,none⟩) 2 c,.slice (some ⟨q,0,none⟩) 2 c2] w fun e w'=>e=.returned (.bool (decide (l.take 2= [46,46])))∧w'=w:=by
 have h1:=yDk hl 0 2 c (by omega);have h3:=yDk hq 0 2 c2 (by simp);simp only[Nat.add_zero,List.drop_zero]at h1 h3;obtain⟨s1,hs1⟩:∃s,s=strL (l.take 2):=⟨_,rfl⟩;obtain⟨s2,hs2⟩:∃s,s=strL (([46,46]:List UInt8).take 2):=⟨_,rfl⟩;rw[←hs1]at h1;rw[←hs2]at h3;obtain⟨r,hr⟩:=qE (decide (l.take 2= [46,46]));have HE:(s1.toList==s2.toList)=r:=by
  rw[hr,hs1,hs2,ByteArray.toList_eq,ByteArray.toList_eq];show((l.take 2).toArray.toList== [46,46])=_;rw[List.toList_toArray];by_cases q:l.take 2= [46,46]
  ·rw[decide_eq_true q,q];rfl
  ·rw[decide_eq_false q];exact beq_eq_false_iff_ne.2 q
 rw[←hr];clear hl hq hs1 hs2 hr;go_enter Tryz.func93,Tryz.ntmps93;go_wp2_with fail;go_ret;exact⟨by first|rfl|(simp[HE])|(rw[←HE];rfl),rfl⟩
theorem yN {o q c2 r:Nat} (hl:yAe w b o l) (hr:r=l.length) (hrc:r≤c) (hcm:c≤9223372036854775807) (hq:yAe w q 0 [46,46]):
  Calls Tryz.prog 60 #[.slice (some ⟨b,o,none⟩) r c,.slice (some ⟨q,0,none⟩) 2 c2] w fun e w'=>e=.returned (.bool (decide (l.take 2= [46,46])))∧w'=w:=by
 by_cases h2:2≤r
 ·have HC:Hid (Calls Tryz.prog 93 #[.slice (some ⟨b,o,none⟩) 2 c,.slice (some ⟨q,0,none⟩) 2 c2] w fun e w'=>e=.returned (.bool (decide (l.take 2= [46,46])))∧w'=w):=yJ2 hl hq (by omega);obtain⟨rr,hrr⟩:=qE (decide (l.take 2= [46,46]));rw[←hrr]at HC⊢;have z2:(2:Int)≤(r:Int):=by omega
  have z3:(2:Int)≤(c:Int):=by omega
  clear hl hq hr hrr;go_enter Tryz.func60,Tryz.ntmps60;go_wp2_with fail;refine HC.mono ?_;rintro e w2 ⟨rfl,hw2⟩;rw[hw2];clear hw2;go_wp2_with fail;go_ret;exact⟨rfl,rfl⟩
 ·have HD:Hid (decide (l.take 2= [46,46])=false):=decide_eq_false (fun q=>by
   have:=congrArg List.length q
   rw[List.length_take]at this
   simp at this
   omega)
  have z2:decide ((2:Int)≤(r:Int))=false:=decide_eq_false (by omega);have z2b:¬(2:Int)≤(r:Int):=by omega
  rw[HD.out];clear hl hq hr;go_enter Tryz.func60,Tryz.ntmps60;go_wp2_with fail;go_ret;exact⟨rfl,rfl⟩
def ftB:TkK→UInt8
 | .word _=>97
 | .num _=>48
 | .str _=>34
 | .sign b=>b
 |_=>0
def TkK.wd:TkK→Int
 | .word k=>k
 |_=>0
abbrev ftV (k:Tk):List Value:= [.int .u8 ((ftB k.k).toNat:Int),.int .i64 (k.pos:Int),.int .i64 k.k.wd,.int .u64 k.k.nm,.string k.k.txt]
variable {ks:List Tk}
theorem ySm (hx:t[p]?=some 32) (h:LexR (t.drop p) p ks):LexR (t.drop (p+1)) (p+1) ks:=by
 rw[yAf hx]at h;cases h with
 |space h=>exact h
 |bad hb _=>exact absurd rfl hb
 |tok hb _ _=>exact absurd rfl hb
theorem yZh (hp:p=t.length) (h:LexR (t.drop p) p ks):ks= [⟨.fin,p⟩]:=by
 rw[hp,List.drop_length]at h;rw[hp];cases h with
 |fin=>rfl
variable {x:UInt8}
theorem ySn (hx:t[p]?=some x) (hn:¬x=32) (ht:tokF (t.drop p)=none) (h:LexR (t.drop p) p ks):ks= [⟨.bad,p⟩]:=by
 rw[yAf hx]at h ht;cases h with
 |space h=>exact absurd rfl hn
 |bad hb _=>rfl
 |tok hb h2 _=>rw[ht]at h2;cases h2
theorem yJh {k:TkK} {m:Nat} (hx:t[p]?=some x) (hn:¬x=32) (ht:tokF (t.drop p)=some (k,m)) (h:LexR (t.drop p) p ks):∃ks',ks=⟨k,p⟩::ks'∧LexR (t.drop (p+m)) (p+m) ks':=by
 have hd:t.drop (p+m)=(x::t.drop (p+1)).drop m:=by rw[←yAf hx,List.drop_drop]
 rw[yAf hx]at h ht;cases h with
 |space h=>exact absurd rfl hn
 |bad hb h2=>rw[ht]at h2;cases h2
 |tok hb h2 h3=>
  rw[ht]at h2;cases h2
  exact⟨_,rfl,by rw[hd];exact h3⟩
theorem yRt (hx:t[p]?=some x):(t.drop p).take 2= [46,46]↔(x=46∧t[p+1]?=some 46):=by
 rw[yAf hx];cases hy:t[p+1]? with
 |none=>rw[List.drop_eq_nil_of_le (List.getElem?_eq_none_iff.1 hy)];simp
 |some y=>rw[yAf hy];simp
structure NxJ (w:World) (base g b off n cap:Nat) (vs:List Value) (t:List UInt8) (ks:List Tk) (tv:List Value) (p:Nat) (wr:World):Prop where
 fs:FsAt wr base g b off n cap p vs
 bys:yAe wr b off t
 res:yA wr w.heap.size 52 5 w.heap.size [.int .u8 0,.int .i64 0,.int .i64 0,.int .u64 0,.string ⟨#[]⟩]
 tok:yA wr w.heap.size 52 5 (w.heap.size+1) tv
 chg:Chg (fun k=>k=g) w wr
 lex:LexR (t.drop p) p ks
 wds:yGk wr
 err:yF6 wr
 bl:b<wr.heap.size
structure NxG (w:World) (g b:Nat):Prop where
 gl:g<w.heap.size
 gb:¬g=b
 gw:¬0=g∧¬3=g
 lo:7≤w.heap.size
variable {tv:List Value}
theorem NxJ.up {wr:World} (h:NxJ w base g b off n cap vs t ks tv p wr) (hb:Below wr.heap.size wr wr'):NxJ w base g b off n cap vs t ks tv p wr':=
 ⟨yA.below h.fs hb,fun k y hk=>by rw[hb.cell (p:=⟨b,off+k,none⟩) h.bl];exact h.bys k y hk,h.res.below hb,h.tok.below hb,h.chg.trans (Chg.of_below hb),h.lex,h.wds.chg (S:=fun _=>False) (Chg.of_below hb) (fun q=>q),h.err.chg (S:=fun _=>False) (Chg.of_below hb) (fun q=>q),by have:=hb.size;have:=h.bl;omega⟩
variable {ks':List Tk}
theorem NxJ.go {p':Nat} {wr:World} (h:NxJ w base g b off n cap vs t ks tv p wr) (hG:NxG w g b) (hc:Chg (fun k=>k=g) wr wr') (hf:FsAt wr' base g b off n cap p' vs) (hl:LexR (t.drop p') p' ks'):NxJ w base g b off n cap vs t ks' tv p' wr':=by have h1:=hG.gl;exact⟨hf,fun k y hk=>by rw[hc.cell (p:=⟨b,off+k,none⟩) h.bl (fun q=>hG.gb q.symm)];exact h.bys k y hk,h.res.chg hc (by omega),h.tok.chg hc (by omega),h.chg.trans hc,hl,h.wds.chg hc hG.gw.1,h.err.chg hc hG.gw.2,by have:=hc.size;have:=h.bl;omega⟩
theorem NxJ.put {wr:World} (h:NxJ w base g b off n cap vs t ks tv p wr) (hG:NxG w g b) (hbw:b<w.heap.size) (j:Nat) (u:Value):NxJ w base g b off n cap vs t ks (tv.set j u) p (wr.setCell ⟨w.heap.size+1,j,none⟩ u):=by
 have hc:Chg (fun k=>k=w.heap.size+1) wr (wr.setCell ⟨w.heap.size+1,j,none⟩ u):=Chg.of_set _ _ _ _ rfl;have h1:=hG.gl;have hv:0<w.heap.size∧3<w.heap.size∧True:=by
  refine⟨?_,?_,trivial⟩
  ·have h9:=h.wds 0 (by omega);rcases Nat.lt_or_ge 0 w.heap.size with q|q
   ·exact q
   ·exfalso;have:=hG.lo;omega
  ·have:=hG.lo;omega
 refine⟨yA.chg h.fs hc (by omega),fun k y hk=>by rw[hc.cell (p:=⟨b,off+k,none⟩) h.bl (by show¬b=_;omega)];exact h.bys k y hk,h.res.chg hc (by omega),h.tok.set j u,?_,h.lex,h.wds.chg hc (by omega),h.err.chg hc (by omega),by have:=hc.size;have:=h.bl;omega⟩;exact⟨hc.os.trans h.chg.os,hc.tape.trans h.chg.tape,hc.output.trans h.chg.output,Nat.le_trans h.chg.size hc.size,fun k hk hn=>(hc.block k (Nat.lt_of_lt_of_le hk h.chg.size) (by omega)).trans (h.chg.block k hk hn)⟩
def NxtP (base g b off n cap:Nat) (vs:List Value) (t:List UInt8) (ks:List Tk) (w:World) (e:Ending) (w':World):Prop:=Hid (Chg (fun k=>k=g) w w')∧(((hdK ks).isBad=true∧e=Pf 2 (hdA ks))∨((hdK ks).isBad=false∧∃k ks',ks=k::ks'∧e=.returned (.agg (ftV k).toArray)∧∃p',FsAt w' base g b off n cap p' vs∧p'≤n∧(k.k.isFin=false→LexR (t.drop p') p' ks')))
def NxD (base g b off n cap:Nat) (vs:List Value) (t:List UInt8) (ks:List Tk) (w wx:World):Prop:=(hdK ks).isBad=false∧∃(k:Tk) (ks' ks2:List Tk) (p':Nat),ks=k::ks'∧NxJ w base g b off n cap vs t ks2 (ftV k) p' wx∧p'≤n∧(k.k.isFin=false→LexR (t.drop p') p' ks')
theorem yMy (h:FsAt w base g b off n cap i vs) (hT:yAe w b off t) (hb:b<w.heap.size) (hn:n=t.length) (hl:n≤100000) (hc:n≤cap) (hcm:cap≤maxLen) (hi:i≤n) (hG:NxG w g b) (hW:yGk w) (hE:yF6 w) (hL:LexR (t.drop i) i ks):
  Calls Tryz.prog 25 #[.pointer (some ⟨g,0,none⟩)] w (NxtP base g b off n cap vs t ks w):=by
 have HN:Hid (n=t.length):=hn;have HG:Hid (NxG w g b):=hG;have hgl:=hG.gl;unfold maxLen at hcm;have c0:=h.cell (j:=0) rfl;obtain⟨W0,hW0⟩:=qE ((w.alloc (Obj.cells #[.int .u8 0,.int .i64 0,.int .i64 0,.int .u64 0,.string ⟨#[]⟩] 52)).alloc (Obj.cells #[.int .u8 0,.int .i64 (n:Int),.int .i64 0,.int .u64 0,.string ⟨#[]⟩] 52):World);have HW0:Hid (NxJ w base g b off n cap vs t ks [.int .u8 0,.int .i64 (n:Int),.int .i64 0,.int .u64 0,.string ⟨#[]⟩] i W0):=by obtain⟨b1,b2,b3⟩:=yFp [.int .u8 0,.int .i64 0,.int .i64 0,.int .u64 0,.string ⟨#[]⟩] [.int .u8 0,.int .i64 (n:Int),.int .i64 0,.int .u64 0,.string ⟨#[]⟩] hW0;exact⟨yA.below h b3,fun k y hk=>by rw[b3.cell (p:=⟨b,off+k,none⟩) hb];exact hT k y hk,b1,b2,Chg.of_below b3,hL,hW.chg (S:=fun _=>False) (Chg.of_below b3) (fun q=>q),hE.chg (S:=fun _=>False) (Chg.of_below b3) (fun q=>q),by have:=b3.size;omega⟩
 clear h hT hn hW hE hL hG;go_enter Tryz.func25,Tryz.ntmps25;go_wp2_with fail;go_step3;go_wp2_with fail;go_step3;rw[←hW0];clear hW0 c0;go_upto_block 0 with fail;go_cut[] (fun wx=>Hid (NxD base g b off n cap vs t ks w wx));case first=>
  go_wp2_with fail;go_loopw[] (fun wr=>∃p:Nat,p≤n∧NxJ w base g b off n cap vs t ks [.int .u8 0,.int .i64 (n:Int),.int .i64 0,.int .u64 0,.string ⟨#[]⟩] p wr) (fun wr=>n-(intOf ((wr.cell? ⟨g,1,none⟩).getD undef)).toNat);case atStart=>exact⟨i,hi,HW0.out⟩
  case round=>
   clear HW0;obtain⟨p,hp,hJ⟩:=hrel;have HJ:Hid (NxJ w base g b off n cap vs t ks [.int .u8 0,.int .i64 (n:Int),.int .i64 0,.int .u64 0,.string ⟨#[]⟩] p wr):=hJ;have HMe:Hid ((intOf ((wr.cell? ⟨g,1,none⟩).getD undef)).toNat=p):=by have h9:=hJ.fs.cell (j:=1) rfl;show _=_;rw[h9];simp[intOf]
   obtain⟨c0,c1⟩:=hJ.fs.c2;clear hJ;by_cases hpn:p<n;case neg=>
    have zp:¬(p:Int)<(n:Int):=by omega
    obtain rfl:p=n:=by omega
    go_upto_region 2 with fail;go_quiet (fail);obtain⟨W1,hW1⟩:∃V:World,V=wr.drewN nq:=⟨_,rfl⟩;have HJ1:Hid (NxJ w base g b off p cap vs t ks [.int .u8 0,.int .i64 (p:Int),.int .i64 0,.int .u64 0,.string ⟨#[]⟩] p W1):=HJ.up (by rw[hW1];exact below_drewN (Below.refl _ _) _);rw[←hW1];clear hW1 c0 c1;obtain⟨c0,c1⟩:=HJ1.fs.c2;have HD:Hid (Hid (NxD base g b off p cap vs t ks w W1)):=by have hk:=yZh HN.out HJ1.lex;refine(⟨by rw[hk];rfl,⟨.fin,p⟩,[],ks,p,hk,HJ1.out,Nat.le_refl _,fun q=>by cases q⟩:NxD base g b off p cap vs t ks w W1)
    go_wp2_with fail;go_meet;exact HD.out
   case pos=>
   have zp:(p:Int)<(n:Int):=by omega
   obtain⟨x,hx⟩:∃x,t[p]?=some x:=⟨_,List.getElem?_eq_getElem (by have:=HN.out;omega)⟩;have HX:Hid (t[p]?=some x):=hx;have hx8:x.toNat<256:=x.toNat_lt;clear hx;go_upto_region 2 with fail;go_quiet (fail);obtain⟨W1,hW1⟩:∃V:World,V=wr.drewN nq:=⟨_,rfl⟩;have HJ1:Hid (NxJ w base g b off n cap vs t ks [.int .u8 0,.int .i64 (n:Int),.int .i64 0,.int .u64 0,.string ⟨#[]⟩] p W1):=HJ.up (by rw[hW1];exact below_drewN (Below.refl _ _) _);rw[←hW1];clear hW1 c0 c1;obtain⟨c0,c1⟩:=HJ1.fs.c2;go_upto_region 3 with fail;have cx:W1.cell? ⟨b,off+p,none⟩=some (.int .u8 (x.toNat:Int)):=HJ1.bys p x HX.out;go_quiet (fail);obtain⟨W2,hW2⟩:∃V:World,V=W1.drewN nq:=⟨_,rfl⟩;have HJ2:Hid (NxJ w base g b off n cap vs t ks [.int .u8 0,.int .i64 (n:Int),.int .i64 0,.int .u64 0,.string ⟨#[]⟩] p W2):=HJ1.up (by rw[hW2];exact below_drewN (Below.refl _ _) _);rw[←hW2];clear hW2 c0 c1 cx;obtain⟨c0,c1⟩:=HJ2.fs.c2;have HCg:Hid (Chg (fun k=>k=g) w W2):=HJ2.chg;by_cases h32:x.toNat=32
   ·have z32:((x.toNat:Int)==32)=true:=by have:(x.toNat:Int)=32:=(by omega);simp[this]
    have hx32:x=32:=UInt8.toNat_inj.1 h32;have f1:=HJ2.fs.frozen 1;have zw:IntKind.i64.wrap ((p:Int)+1)=(p:Int)+1:=wrap64 (by omega) (by omega)
    have HR:Hid (NxJ w base g b off n cap vs t ks [.int .u8 0,.int .i64 (n:Int),.int .i64 0,.int .u64 0,.string ⟨#[]⟩] (p+1) (W2.setCell ⟨g,1,none⟩ (.int .i64 ((p:Int)+1)))):=
     HJ2.go HG.out (Chg.of_set _ _ _ _ rfl) (HJ2.fs.move (p+1) _ (by congr 1)) (ySm (by rw[HX.out,hx32]) HJ2.lex)
    have HMe2:Hid ((intOf (((W2.setCell ⟨g,1,none⟩ (.int .i64 ((p:Int)+1))).cell? ⟨g,1,none⟩).getD undef)).toNat=p+1):=by have h9:=HR.fs.cell (j:=1) rfl;show _=_;rw[h9];simp[intOf]
    clear h32 hx32;go_wp2_with fail;go_roundw;case rel=>exact⟨p+1,by omega,HR.out⟩
    case measure=>(rw[HMe2.out,HMe.out];try omega)
   have z32:((x.toNat:Int)==32)=false:=by have:¬(x.toNat:Int)=32:=(by omega);simp[this]
   have Hn32:Hid (¬x=32):=yEv h32;clear h32;have t1:=HJ2.tok.cell (j:=1) rfl;have ft1:=HJ2.tok.frozen 1;obtain⟨W3,hW3⟩:=qE (W2.setCell ⟨w.heap.size+1,1,none⟩ (.int .i64 (p:Int)):World);have HJ3:Hid (NxJ w base g b off n cap vs t ks [.int .u8 0,.int .i64 (p:Int),.int .i64 0,.int .u64 0,.string ⟨#[]⟩] p W3):=by have h9:=HJ2.put HG.out hb 1 (.int .i64 (p:Int));rw[←hW3]at h9;exact h9
   go_upto_region 8 with fail;rw[←hW3];clear hW3 t1 ft1 c0 c1;have HLe:Hid (Calls Tryz.prog 55 #[.int .u8 (x.toNat:Int)] W3 fun e w'=>e=.returned (.bool (yA7 x))∧w'=W3):=yE4 x W3;have HDi:Hid (Calls Tryz.prog 57 #[.int .u8 (x.toNat:Int)] W3 fun e w'=>e=.returned (.bool (yA1 x))∧w'=W3):=yFv x W3;have t0:=HJ3.tok.cell (j:=0) rfl;have ft0:=HJ3.tok.frozen 0;cases hlet:yA7 x
   case true=>
    rw[hlet]at HLe;have HT0:Hid (tokF (t.drop p)=(kwF ((t.drop p).takeWhile yA7)).map (fun k=>(.word k,((t.drop p).takeWhile yA7).length))):=yRn HX.out hlet;have HL:Hid (yA7 x=true):=hlet;clear hlet HDi;go_wp2_with fail;refine HLe.mono ?_;rintro e w4 ⟨rfl,hw4⟩;rw[hw4];clear hw4 HLe;obtain⟨W4,hW4⟩:∃V:World,V=W3.setCell ⟨w.heap.size+1,0,none⟩ (.int .u8 97):=⟨_,rfl⟩;have HJ4:Hid (NxJ w base g b off n cap vs t ks [.int .u8 97,.int .i64 (p:Int),.int .i64 0,.int .u64 0,.string ⟨#[]⟩] p W4):=by have h9:=HJ3.put HG.out hb 0 (.int .u8 97);rw[←hW4]at h9;exact h9
    go_upto_region 10 with fail;rw[←hW4];clear hW4 t0 ft0;have HC:Hid (Calls Tryz.prog 56 #[.pointer (some ⟨g,0,none⟩)] W4 (WrdP base g b off n cap p vs ((t.drop p).takeWhile yA7) W4)):=yRa HJ4.fs HJ4.bys HN.out hl hc (by unfold maxLen;exact hcm) hpn (fun y hy=>by rw[HX.out]at hy;cases hy;exact HL.out) HJ4.wds;go_wp2_with fail;refine HC.mono ?_;rintro e w5 ⟨Hc5,(⟨k,hk,rfl,HFS⟩|⟨hk,rfl⟩)⟩
    ·have HTk:Hid (tokF (t.drop p)=some (.word k,((t.drop p).takeWhile yA7).length)):=by show _=_;rw[HT0.out,hk];rfl
     obtain⟨ks',hks,hlx⟩:=yJh HX.out Hn32.out HTk.out HJ4.lex;have hpl:p+((t.drop p).takeWhile yA7).length≤n:=by have h9:=(yDz HTk.out).2.1;rw[List.length_drop]at h9;have:=HN.out;omega
     have HJ5:Hid (NxJ w base g b off n cap vs t ks' [.int .u8 97,.int .i64 (p:Int),.int .i64 0,.int .u64 0,.string ⟨#[]⟩] (p+((t.drop p).takeWhile yA7).length) w5):=HJ4.go HG.out Hc5.out HFS hlx;have t2:=HJ5.tok.cell (j:=2) rfl;have ft2:=HJ5.tok.frozen 2;have HD:Hid (Hid (NxD base g b off n cap vs t ks w (w5.setCell ⟨w.heap.size+1,2,none⟩ (.int .i64 k)))):=by have h9:=HJ5.put HG.out hb 2 (.int .i64 k);exact(⟨by rw[hks];rfl,⟨.word k,p⟩,ks',ks',p+((t.drop p).takeWhile yA7).length,hks,h9,hpl,fun _=>hlx⟩:NxD base g b off n cap vs t ks w _)
     clear HC hks hlx HFS;go_wp2_with fail;go_meet;exact HD.out
    ·exact yX0
   case false=>
   rw[hlet]at HLe;have Hnl:Hid (¬yA7 x=true):=by show¬_;rw[hlet];simp
   clear hlet;cases hdig:yA1 x
   case true=>
    rw[hdig]at HDi;have HT0:Hid (tokF (t.drop p)=(numM ((t.drop p).takeWhile yA1)).map (fun(n:Nat)=>(TkK.num (n:Int),((t.drop p).takeWhile yA1).length))):=yRo HX.out Hnl.out hdig;have HL:Hid (yA1 x=true):=hdig;clear hdig;go_wp2_with fail;refine HLe.mono ?_;rintro e w4 ⟨rfl,hw4⟩;rw[hw4];clear hw4 HLe;go_wp2_with fail;refine HDi.mono ?_;rintro e w4 ⟨rfl,hw4⟩;rw[hw4];clear hw4 HDi;obtain⟨W4,hW4⟩:∃V:World,V=W3.setCell ⟨w.heap.size+1,0,none⟩ (.int .u8 48):=⟨_,rfl⟩;have HJ4:Hid (NxJ w base g b off n cap vs t ks [.int .u8 48,.int .i64 (p:Int),.int .i64 0,.int .u64 0,.string ⟨#[]⟩] p W4):=by have h9:=HJ3.put HG.out hb 0 (.int .u8 48);rw[←hW4]at h9;exact h9
    go_upto_region 13 with fail;rw[←hW4];clear hW4 t0 ft0;have HC:Hid (Calls Tryz.prog 58 #[.pointer (some ⟨g,0,none⟩)] W4 (NmbP base g b off n cap p vs ((t.drop p).takeWhile yA1) W4)):=yU9 HJ4.fs HJ4.bys HN.out hl hc (by unfold maxLen;exact hcm) hpn (fun y hy=>by rw[HX.out]at hy;cases hy;exact HL.out) HJ4.err;go_wp2_with fail;refine HC.mono ?_;rintro e w5 ⟨Hc5,(⟨v,hk,rfl,HFS⟩|⟨hk,rfl⟩)⟩
    ·have HTk:Hid (tokF (t.drop p)=some (.num (v:Int),((t.drop p).takeWhile yA1).length)):=by show _=_;rw[HT0.out,hk];rfl
     obtain⟨ks',hks,hlx⟩:=yJh HX.out Hn32.out HTk.out HJ4.lex;have hpl:p+((t.drop p).takeWhile yA1).length≤n:=by have h9:=(yDz HTk.out).2.1;rw[List.length_drop]at h9;have:=HN.out;omega
     have HJ5:Hid (NxJ w base g b off n cap vs t ks' [.int .u8 48,.int .i64 (p:Int),.int .i64 0,.int .u64 0,.string ⟨#[]⟩] (p+((t.drop p).takeWhile yA1).length) w5):=HJ4.go HG.out Hc5.out HFS hlx;have t3:=HJ5.tok.cell (j:=3) rfl;have ft3:=HJ5.tok.frozen 3;have HD:Hid (Hid (NxD base g b off n cap vs t ks w (w5.setCell ⟨w.heap.size+1,3,none⟩ (.int .u64 (v:Int))))):=by have h9:=HJ5.put HG.out hb 3 (.int .u64 (v:Int));exact(⟨by rw[hks];rfl,⟨.num (v:Int),p⟩,ks',ks',p+((t.drop p).takeWhile yA1).length,hks,h9,hpl,fun _=>hlx⟩:NxD base g b off n cap vs t ks w _)
     clear HC hks hlx HFS;go_wp2_with fail;go_meet;exact HD.out
    ·exact yX0
   case false=>
   rw[hdig]at HDi;have Hnd:Hid (¬yA1 x=true):=by show¬_;rw[hdig];simp
   clear hdig;by_cases h34:x.toNat=34
   ·have z34:((x.toNat:Int)==34)=true:=by have:(x.toNat:Int)=34:=(by omega);simp[this]
    have HT0:Hid (tokF (t.drop p)=(quF (t.drop (p+1))).map (fun z=>(.str (strL z.1),z.2+1))):=yN1 (by rw[HX.out];congr 1;exact UInt8.toNat_inj.1 h34);clear h34;go_wp2_with fail;refine HLe.mono ?_;rintro e w4 ⟨rfl,hw4⟩;rw[hw4];clear hw4 HLe;go_wp2_with fail;refine HDi.mono ?_;rintro e w4 ⟨rfl,hw4⟩;rw[hw4];clear hw4 HDi;obtain⟨W4,hW4⟩:∃V:World,V=W3.setCell ⟨w.heap.size+1,0,none⟩ (.int .u8 34):=⟨_,rfl⟩;have HJ4:Hid (NxJ w base g b off n cap vs t ks [.int .u8 34,.int .i64 (p:Int),.int .i64 0,.int .u64 0,.string ⟨#[]⟩] p W4):=by have h9:=HJ3.put HG.out hb 0 (.int .u8 34);rw[←hW4]at h9;exact h9
    go_upto_region 16 with fail;rw[←hW4];clear hW4 t0 ft0;have HC:Hid (Calls Tryz.prog 59 #[.pointer (some ⟨g,0,none⟩)] W4 (SstP base g b off n cap p vs (t.drop (p+1)) W4)):=yUm HJ4.fs HJ4.bys HJ4.bl HN.out hl hc (by unfold maxLen;exact hcm) hpn;go_wp2_with fail;refine HC.mono ?_;rintro e w5 ⟨Hc5,(⟨c,k,hk,rfl,HFS0⟩|⟨hk,rfl⟩)⟩
    ·have HTk:Hid (tokF (t.drop p)=some (.str (strL c),(k+1))):=by show _=_;rw[HT0.out,hk];rfl
     have HFS:FsAt w5 base g b off n cap (p+(k+1)) vs:=by rw[show p+(k+1)=p+1+k by omega];exact HFS0
     obtain⟨ks',hks,hlx⟩:=yJh HX.out Hn32.out HTk.out HJ4.lex;have hpl:p+(k+1)≤n:=by have h9:=(yDz HTk.out).2.1;rw[List.length_drop]at h9;have:=HN.out;omega
     have HJ5:Hid (NxJ w base g b off n cap vs t ks' [.int .u8 34,.int .i64 (p:Int),.int .i64 0,.int .u64 0,.string ⟨#[]⟩] (p+(k+1)) w5):=HJ4.go HG.out Hc5.out HFS hlx;have t4:=HJ5.tok.cell (j:=4) rfl;have ft4:=HJ5.tok.frozen 4;have HD:Hid (Hid (NxD base g b off n cap vs t ks w (w5.setCell ⟨w.heap.size+1,4,none⟩ (.string (strL c))))):=by have h9:=HJ5.put HG.out hb 4 (.string (strL c));exact(⟨by rw[hks];rfl,⟨.str (strL c),p⟩,ks',ks',p+(k+1),hks,h9,hpl,fun _=>hlx⟩:NxD base g b off n cap vs t ks w _)
     clear HC hks hlx HFS;go_wp2_with fail;go_meet;exact HD.out
    ·exact yX0
   have z34:((x.toNat:Int)==34)=false:=by have:¬(x.toNat:Int)=34:=(by omega);simp[this]
   go_wp2_with fail;refine HLe.mono ?_;rintro e w4 ⟨rfl,hw4⟩;rw[hw4];clear hw4 HLe;go_wp2_with fail;refine HDi.mono ?_;rintro e w4 ⟨rfl,hw4⟩;rw[hw4];clear hw4 HDi;go_upto_region 17 with fail;have hcp:¬cap=p:=by omega
   have zpc:(n:Int)≤(cap:Int):=by omega
   have zpn:(p:Int)≤(n:Int):=by omega
   have hS0:SW (fun w':World=>w'.cell? ⟨g,0,none⟩=some (.slice (some ⟨b,off,none⟩) n cap)∧w'.cell? ⟨g,1,none⟩=some (.int .i64 (p:Int))∧yAe w' b off t) W3.drew:=⟨HJ3.fs.cell (j:=0) rfl,HJ3.fs.cell (j:=1) rfl,HJ3.bys⟩;refine wpR 99 hS0 ?_;refine j3a 0 hS0 ?_;iterate 7 refine j3b hS0 ?_
   refine j3a 8 hS0 (v:=(.slice (some ⟨b,off+p,none⟩) (n-p) (cap-p))) ?_;obtain⟨Wa,hWa⟩:∃V:World,V=W3.drew.alloc (Obj.cells #[.int .u8 46,.int .u8 46] 5):=⟨_,rfl⟩;obtain⟨W5,hW5⟩:∃V:World,V=W3.drew.alloc (Obj.cells #[.int .u8 46,.int .u8 46] 5 (2,3)):=⟨_,rfl⟩;have hba:Below W3.heap.size W3 Wa:=by rw[hWa];exact((Below.refl _ _).drew).alloc (Nat.le_refl _) _
   have hb5:Below W3.heap.size W3 W5:=by rw[hW5];exact((Below.refl _ _).drew).alloc (Nat.le_refl _) _
   have HJa:Hid (NxJ w base g b off n cap vs t ks [.int .u8 0,.int .i64 (p:Int),.int .i64 0,.int .u64 0,.string ⟨#[]⟩] p Wa):=HJ3.up hba;have HJ5:Hid (NxJ w base g b off n cap vs t ks [.int .u8 0,.int .i64 (p:Int),.int .i64 0,.int .u64 0,.string ⟨#[]⟩] p W5∧yAe W5 W3.drew.heap.size 0 [46,46]):=⟨HJ3.up hb5,by rw[hW5];exact yHv W3.drew _ [46,46] _ rfl⟩;have hSa:=SWm hS0 Wa <|⟨HJa.fs.cell (j:=0) rfl,HJa.fs.cell (j:=1) rfl,HJa.bys⟩;have hS5:=SWm hSa W5 <|⟨HJ5.1.fs.cell (j:=0) rfl,HJ5.1.fs.cell (j:=1) rfl,HJ5.1.bys⟩;have hcv:(convert 22 22 (.slice (some ⟨W3.heap.size,0,none⟩) 2 2)).run Tryz.prog Wa=.ok (.slice (some ⟨W3.heap.size,0,none⟩) 2 2) W5:=by rw[hWa,hW5];exact Lib.run_convert_bytes_const (P:=Tryz.prog) W3.drew 22 5 #[.int .u8 46,.int .u8 46] 2 2 Tryz.underlying22 Tryz.underlying5
   refine qO 9 rfl fun K hK=>?_;go_simp;rw[show(W3.alloc (Obj.cells #[.int .u8 46,.int .u8 46] 5)).drew=Wa from by rw[hWa];rfl];refine hK.out _ _ (.inr hSa) ?_;clear hK hW5 hWa;refine jS ?_;refine qO 10 rfl fun K hK=>?_;go_simp;refine hK.out _ _ (.inr hS5) ?_;clear hK hcv hSa HJa hba hb5;refine jS ?_;obtain⟨dd,hdd⟩:=qE (decide ((t.drop p).take 2= [46,46]));have HHp:Hid (Calls Tryz.prog 60 #[.slice (some ⟨b,off+p,none⟩) (n-p) (cap-p),.slice (some ⟨W3.heap.size,0,none⟩) 2 2] W5 fun e w'=>e=.returned (.bool dd)∧w'=W5):=by rw[hdd];refine yN (l:=t.drop p) (fun k y hk=>?_) (by rw[List.length_drop];have:=HN.out;omega) (by omega) (by omega) HJ5.2;rw[List.getElem?_drop]at hk;rw[Nat.add_assoc];exact HJ5.1.bys (p+k) y hk
   have HDd:Hid (dd=true↔(x=46∧t[p+1]?=some 46)):=by show _↔_;rw[hdd,decide_eq_true_iff];exact yRt HX.out
   clear hdd;refine qO 11 rfl fun K hK=>?_;go_simp;go_at_call 60;refine HHp.mono ?_;rintro e w6 ⟨rfl,hw6⟩;rw[hw6];clear hw6 HHp;refine hK.out _ _ (.inr hS5) ?_;clear hK;refine jS ?_;refine j3a 12 hS5 ?_;refine qD ?_;clear hS0 hS5 t0 ft0;have HTk:Hid (tokF (t.drop p)=if x=46∧t[p+1]?=some 46 then some (.sign 46,2)else if x=40∨x=41∨x=44∨x=62∨x=124 then some (.sign x,1)else none):=yOy HX.out Hnl.out Hnd.out (yEv h34);have t0:=HJ5.1.tok.cell (j:=0) rfl;have ft0:=HJ5.1.tok.frozen 0;clear h34;cases dd
   case true=>
    have hdd:=HDd.1 rfl;have HTs:Hid (tokF (t.drop p)=some (.sign 46,2)):=by show _=_;rw[HTk.out,if_pos hdd]
    obtain⟨ks',hks,hlx⟩:=yJh HX.out Hn32.out HTs.out HJ5.1.lex;have hpl:p+2≤n:=by have h9:=(yDz HTs.out).2.1;rw[List.length_drop]at h9;have:=HN.out;omega
    have zw:IntKind.i64.wrap ((p:Int)+2)=(p:Int)+2:=wrap64 (by omega) (by omega);obtain⟨W6,hW6⟩:∃V:World,V=W5.setCell ⟨w.heap.size+1,0,none⟩ (.int .u8 46):=⟨_,rfl⟩;have HJ6:Hid (NxJ w base g b off n cap vs t ks [.int .u8 46,.int .i64 (p:Int),.int .i64 0,.int .u64 0,.string ⟨#[]⟩] p W6):=by have h9:=HJ5.1.put HG.out hb 0 (.int .u8 46);rw[←hW6]at h9;exact h9
    have HD:Hid (Hid (NxD base g b off n cap vs t ks w (W6.setCell ⟨g,1,none⟩ (.int .i64 ((p:Int)+2))))):=by have h9:=HJ6.go HG.out (Chg.of_set _ _ _ _ rfl) (HJ6.fs.move (p+2) (.int .i64 ((p:Int)+2)) (by congr 1)) hlx;exact(⟨by rw[hks];rfl,⟨.sign 46,p⟩,ks',ks',p+2,hks,h9,hpl,fun _=>hlx⟩:NxD base g b off n cap vs t ks w _)
    clear hks hlx hdd;go_upto_region 19 with fail;exact zzQ83
   case false=>
   have HTk2:Hid (tokF (t.drop p)=if x=40∨x=41∨x=44∨x=62∨x=124 then some (.sign x,1)else none):=by show _=_;rw[HTk.out,if_neg (fun q=>Bool.noConfusion (HDd.2 q))]
   obtain⟨r,hr⟩:=qE (Lib.indexByte (sb ⟨#[40,41,44,62,124]⟩) x);have HIx:Hid (Calls Tryz.prog 61 #[.string ⟨#[40,41,44,62,124]⟩,.int .u8 (x.toNat:Int)] W5 fun e w'=>e=.returned (.int .i64 r)∧w'=W5):=by rw[hr];exact yCq ⟨#[40,41,44,62,124]⟩ x W5
   have hri:=yE5 (sb ⟨#[40,41,44,62,124]⟩) x;rw[←hr]at hri;have hmem:x∈sb ⟨#[40,41,44,62,124]⟩↔(x=40∨x=41∨x=44∨x=62∨x=124):=by simp[sb]
   by_cases h0:0≤r
   ·have z0:decide ((0:Int)≤r)=true:=decide_eq_true h0;have hsg:=hmem.1 (hri.2.1 h0);have HTs:Hid (tokF (t.drop p)=some (.sign x,1)):=by show _=_;rw[HTk2.out,if_pos hsg]
    obtain⟨ks',hks,hlx⟩:=yJh HX.out Hn32.out HTs.out HJ5.1.lex;have zw:IntKind.i64.wrap ((p:Int)+1)=(p:Int)+1:=wrap64 (by omega) (by omega);obtain⟨W6,hW6⟩:∃V:World,V=W5.setCell ⟨w.heap.size+1,0,none⟩ (.int .u8 (x.toNat:Int)):=⟨_,rfl⟩;have HJ6:Hid (NxJ w base g b off n cap vs t ks [.int .u8 (x.toNat:Int),.int .i64 (p:Int),.int .i64 0,.int .u64 0,.string ⟨#[]⟩] p W6):=by have h9:=HJ5.1.put HG.out hb 0 (.int .u8 (x.toNat:Int));rw[←hW6]at h9;exact h9
    have HD:Hid (Hid (NxD base g b off n cap vs t ks w (W6.setCell ⟨g,1,none⟩ (.int .i64 ((p:Int)+1))))):=by have h9:=HJ6.go HG.out (Chg.of_set _ _ _ _ rfl) (HJ6.fs.move (p+1) (.int .i64 ((p:Int)+1)) (by congr 1)) hlx;exact(⟨by rw[hks];rfl,⟨.sign x,p⟩,ks',ks',p+1,hks,h9,by omega,fun _=>hlx⟩:NxD base g b off n cap vs t ks w _)
    clear hks hlx hsg hmem hri hr;go_wp2_with fail;refine HIx.mono ?_;rintro e w6 ⟨rfl,hw6⟩;rw[hw6];clear hw6 HIx;go_upto_region 22 with fail;exact zzQ83
   ·have z0:decide ((0:Int)≤r)=false:=decide_eq_false h0;have HTn:Hid (tokF (t.drop p)=none):=by show _=_;rw[HTk2.out,if_neg (fun q=>h0 (hri.2.2 (hmem.2 q)))]
    have HD:Hid (NxtP base g b off n cap vs t ks w (Pf 2 p) W5):=by have hk:=ySn HX.out Hn32.out HTn.out HJ5.1.lex;exact⟨HJ5.1.chg,.inl ⟨by rw[hk];rfl,by rw[hk];rfl⟩⟩
    clear hmem hri hr;go_wp2_with fail;refine HIx.mono ?_;rintro e w6 ⟨rfl,hw6⟩;rw[hw6];clear hw6 HIx;go_wp2_with fail;refine(yEx HJ5.1.fs).mono ?_;rintro e w6 ⟨rfl,hw6⟩;rw[hw6];clear hw6;exact⟨rfl,HD.out⟩
 case rest=>
 have HD:Hid (NxD base g b off n cap vs t ks w wc):=hcut;clear hcut HW0;obtain⟨hnb,k,ks',ks2,p',hks,hJ,hp',hlx⟩:=HD.out;have HJ:Hid (NxJ w base g b off n cap vs t ks2 (ftV k) p' wc):=hJ;obtain⟨t0,t1,t2,t3,t4⟩:=hJ.tok.c5;obtain⟨l0,l1,l2,l3,l4⟩:=hJ.res.c5;obtain⟨f0,f1,f2,f3,f4⟩:=hJ.res.f5;obtain⟨W9,hW9⟩:∃V:World,V=setP wc w.heap.size (.int .u8 ((ftB k.k).toNat:Int)) (.int .i64 (k.pos:Int)) (.int .i64 k.k.wd) (.int .u64 k.k.nm) (.string k.k.txt):=⟨_,rfl⟩;have hB9:=hJ.res.setP (.int .u8 ((ftB k.k).toNat:Int)) (.int .i64 (k.pos:Int)) (.int .i64 k.k.wd) (.int .u64 k.k.nm) (.string k.k.txt);have hc9:Chg (fun q=>q=w.heap.size) wc W9:=by rw[hW9];exact((((Chg.of_set (S:=fun k=>k=w.heap.size) _ _ _ _ rfl).trans (Chg.of_set (S:=fun k=>k=w.heap.size) _ _ _ _ rfl)).trans (Chg.of_set (S:=fun k=>k=w.heap.size) _ _ _ _ rfl)).trans (Chg.of_set (S:=fun k=>k=w.heap.size) _ _ _ _ rfl)).trans (Chg.of_set (S:=fun k=>k=w.heap.size) _ _ _ _ rfl)
 rw[←hW9]at hB9;have HR:Hid (NxtP base g b off n cap vs t ks w (.returned (.agg (ftV k).toArray)) W9):=by refine⟨⟨hc9.os.trans hJ.chg.os,hc9.tape.trans hJ.chg.tape,hc9.output.trans hJ.chg.output,Nat.le_trans hJ.chg.size hc9.size,fun q hq hn=>(hc9.block q (Nat.lt_of_lt_of_le hq hJ.chg.size) (by omega)).trans (hJ.chg.block q hq hn)⟩,.inr ⟨hnb,k,ks',hks,rfl,p',yA.chg hJ.fs hc9 (by omega),hp',hlx⟩⟩
 obtain⟨p0,p1,p2,p3,p4⟩:=hB9.c5;clear hJ hks hlx hnb hB9 hc9 HD HJ;unfold setP at hW9;go_wp2_with fail;rw[←hW9];(try rw[Exit.noGoto_ret]);exact bodyPost_ret (v:=.agg (ftV k).toArray) (by simp[results,Tryz.results25,go_sem,p0,p1,p2,p3,p4]) rfl HR.out
abbrev fpL (k:Tk) (made op:Nat) (nv:Value):List Value:= [.int .u8 ((ftB k.k).toNat:Int),.int .i64 (k.pos:Int),.int .i64 k.k.wd,.int .u64 k.k.nm,.string k.k.txt,.int .i64 (made:Int),.int .i64 (op:Int),nv]
structure FpS (base b off n cap:Nat) (t:List UInt8) (w:World):Prop where
 bys:yAe w b off t
 bl:b<base
 lo:7≤base
 sz:base≤w.heap.size
 wds:yGk w
 err:yF6 w
 nt:n=t.length
 nl:n≤100000
 nc:n≤cap
 cm:cap≤maxLen
theorem FpS.up (h:FpS base b off n cap t w) (hb:Below base w w'):FpS base b off n cap t w':=by
 have h1:=h.lo;have hv:0<base∧3<base:=by omega
 refine⟨fun k y hk=>by rw[hb.cell (p:=⟨b,off+k,none⟩) h.bl];exact h.bys k y hk,h.bl,h.lo,Nat.le_trans h.sz hb.size,fun k hk=>?_,?_,h.nt,h.nl,h.nc,h.cm⟩
 ·rw[hb.cell (p:=⟨0,k,none⟩) hv.1];exact h.wds k hk
 ·obtain⟨ev,e1,e2⟩:=h.err;exact⟨ev,by rw[hb.cell (p:=⟨3,0,none⟩) hv.2];exact e1,e2⟩
theorem Chg.comp {S1:Nat→Prop} {w1 w2:World} (h:Chg S w w1) (h1:Chg S1 w1 w2) (hs:∀q,q<w.heap.size→S1 q→S q):Chg S w w2:=
 ⟨h1.os.trans h.os,h1.tape.trans h.tape,h1.output.trans h.output,Nat.le_trans h.size h1.size,fun q hq hn=>(h1.block q (Nat.lt_of_lt_of_le hq h.size) (fun z=>hn (hs q hq z))).trans (h.block q hq hn)⟩
theorem FpS.chg (h:FpS base b off n cap t w) (hc:Chg S w w') (hs:∀q,S q→base≤q):FpS base b off n cap t w':=h.up (Chg.below (Below.refl _ _) hc h.sz hs)
structure Fp (base g b off n cap:Nat) (t:List UInt8) (d:Nat) (s:Ps) (k:Tk) (ks:List Tk) (p:Nat) (nv:Value) (w:World):Prop where
 eq:s.ks=k::ks
 fs:FsAt w base g b off n cap p (fpL k s.made (20-d) nv)
 pn:p≤n
 lx:k.k.isFin=false→LexR (t.drop p) p ks
 nb:k.k.isBad=false
 tk:Toks (k::ks)
 md:s.made≤200
 dd:d≤20
 nds:w.ownsRow base 65 7 nv s.out.length (yBn s.out)
 ap:∀q,nv.ownBlock=some q→¬q=g
 ol:s.out.length+s.ks.length≤200000
def FpQ (base g b off n cap:Nat) (t:List UInt8) (d:Nat) (nv:Value) (w:World) (s1:Ps) (w':World):Prop:=∃k ks p nv',Fp base g b off n cap t d s1 k ks p nv' w'∧(∀q,nv'.ownBlock=some q→nv.ownBlock=some q∨w.heap.size≤q)
def FpO (base g b off n cap:Nat) (t:List UInt8) (d:Nat) (A:PR Ps→Prop) (V:Value) (nv:Value) (w:World) (e:Ending) (w':World):Prop:=Hid (Chg (fun q=>q=g∨nv.ownBlock=some q) w w')∧((∃s1,A (.ok s1)∧e=.returned V∧FpQ base g b off n cap t d nv w s1 w')∨(∃c a,A (.error (c,a))∧e=Pf c ((a:Nat):Int)))
variable {d:Nat} {s:Ps} {nv:Value}
theorem Fp.kinds {k:Tk} (h:Fp base g b off n cap t d s k ks p nv w):k.k.good∨k.k=.fin:=by
 have h1:=h.tk;cases h1 with
 |last _ q=>rcases q with q|q
            ·exact .inr q
            ·have:=h.nb;rw[q]at this;cases this
 |more _ q _=>exact .inl q
theorem yJo {k:TkK} (hk:k.good∨k=.fin) {b:UInt8} (hb:b=40∨b=41∨b=44∨b=62∨b=124∨b=46):(((ftB k).toNat:Int)==((b.toNat:Nat):Int))=k.isSign b:=by
 have h0:(((ftB k).toNat:Int)==((b.toNat:Nat):Int))=(ftB k==b):=by
  by_cases q:ftB k=b
  ·rw[q];simp
  ·have q2:¬((ftB k).toNat:Int)=(b.toNat:Int):=fun z=>q (UInt8.toNat_inj.1 (by omega));rw[beq_eq_false_iff_ne.2 q,beq_eq_false_iff_ne.2 q2]
 rw[h0];cases k with
 |sign c=>rfl
 |word _=>rcases hb with rfl|rfl|rfl|rfl|rfl|rfl<;>rfl
 |num _=>rcases hb with rfl|rfl|rfl|rfl|rfl|rfl<;>rfl
 |str _=>rcases hb with rfl|rfl|rfl|rfl|rfl|rfl<;>rfl
 |fin=>rcases hb with rfl|rfl|rfl|rfl|rfl|rfl<;>rfl
 |bad=>rcases hb with rfl|rfl|rfl|rfl|rfl|rfl<;>rfl
theorem yCo (v:Value) (c:Int) (w:World):Calls Tryz.prog 27 #[v,.bool true,.int .i64 c] w fun e w'=>e=.returned (.tuple #[])∧w'=w:=by go_enter Tryz.func27,Tryz.ntmps27;go_wp2_with fail;go_end0;exact⟨rfl,rfl⟩
variable {k:Tk}
theorem yEg (h:Fp base g b off n cap t d s k ks p nv w) (c:Int):Calls Tryz.prog 27 #[.pointer (some ⟨g,0,none⟩),.bool false,.int .i64 c] w fun e w'=>e=Pf c (k.pos:Int)∧w'=w:=by have c3:=h.fs.cell (j:=3) rfl;clear h;go_enter Tryz.func27,Tryz.ntmps27;go_wp2_with fail;exact⟨rfl,rfl,rfl⟩
theorem Fp.chg (h:Fp base g b off n cap t d s k ks p nv w) (hc:Chg S w w') (hg:¬S g) (hn:∀q,nv.ownBlock=some q→¬S q):Fp base g b off n cap t d s k ks p nv w':=
 ⟨h.eq,yA.chg h.fs hc hg,h.pn,h.lx,h.nb,h.tk,h.md,h.dd,yA2 h.nds hc hn,h.ap,h.ol⟩
theorem Fp.below (h:Fp base g b off n cap t d s k ks p nv w) (hb:Below w.heap.size w w'):Fp base g b off n cap t d s k ks p nv w':=h.chg (S:=fun _=>False) (Chg.of_below hb) (fun q=>q) (fun _ _ q=>q)
theorem Fp.nxg (h:Fp base g b off n cap t d s k ks p nv w) (hS:FpS base b off n cap t w):NxG w g b:=by have h1:=h.fs.lt;have h2:=hS.lo;have h3:=hS.bl;exact⟨h1.2,by omega,by omega,by omega⟩
def setQ (w:World) (g:Nat) (a b c d e:Value):World:=((((w.setCell ⟨g,2,none⟩ a).setCell ⟨g,3,none⟩ b).setCell ⟨g,4,none⟩ c).setCell ⟨g,5,none⟩ d).setCell ⟨g,6,none⟩ e
theorem FsAt.setQ {k2:Tk} {made op:Nat} (h:FsAt w base g b off n cap p (fpL k made op nv)):FsAt (Go.Proofs.YtgnpcenpcmdlfaaGreatDoor.setQ w g (.int .u8 ((ftB k2.k).toNat:Int)) (.int .i64 (k2.pos:Int)) (.int .i64 k2.k.wd) (.int .u64 k2.k.nm) (.string k2.k.txt)) base g b off n cap p (fpL k2 made op nv):=
 ((((yA.set h 2 (.int .u8 ((ftB k2.k).toNat:Int))).set 3 (.int .i64 (k2.pos:Int))).set 4 (.int .i64 k2.k.wd)).set 5 (.int .u64 k2.k.nm)).set 6 (.string k2.k.txt)
theorem yPu (w:World) (g:Nat) (a b c d e:Value):Chg (fun k=>k=g) w (setQ w g a b c d e):=
 ((((Chg.of_set (S:=fun k=>k=g) _ _ _ _ rfl).trans (Chg.of_set (S:=fun k=>k=g) _ _ _ _ rfl)).trans (Chg.of_set (S:=fun k=>k=g) _ _ _ _ rfl)).trans (Chg.of_set (S:=fun k=>k=g) _ _ _ _ rfl)).trans (Chg.of_set (S:=fun k=>k=g) _ _ _ _ rfl)
theorem yCp (w:World) (g:Nat) (a b c d e:Value):Chg (fun k=>k=g) w (setP w g a b c d e):=
 ((((Chg.of_set (S:=fun k=>k=g) _ _ _ _ rfl).trans (Chg.of_set (S:=fun k=>k=g) _ _ _ _ rfl)).trans (Chg.of_set (S:=fun k=>k=g) _ _ _ _ rfl)).trans (Chg.of_set (S:=fun k=>k=g) _ _ _ _ rfl)).trans (Chg.of_set (S:=fun k=>k=g) _ _ _ _ rfl)
def TakP (base g b off n cap:Nat) (t:List UInt8) (d:Nat) (s:Ps) (k:Tk) (nv:Value) (w:World) (e:Ending) (w':World):Prop:=Hid (Chg (fun q=>q=g) w w')∧((∃k2 ks2 p2,yA9 s.ks=.ok (k2::ks2)∧e=.returned (.agg (ftV k).toArray)∧Fp base g b off n cap t d {s with ks:=k2::ks2} k2 ks2 p2 nv w')∨(∃c a,yA9 s.ks=.error (c,a)∧e=Pf c ((a:Nat):Int)))
theorem yDh (hS:FpS base b off n cap t w) (h:Fp base g b off n cap t d s k ks p nv w) (hf:k.k.isFin=false):
  Calls Tryz.prog 114 #[.pointer (some ⟨g,0,none⟩)] w (TakP base g b off n cap t d s k nv w):=by
 obtain⟨W0,hW0⟩:=qE ((w.alloc (Obj.cells #[.int .u8 0,.int .i64 0,.int .i64 0,.int .u64 0,.string ⟨#[]⟩] 52)).alloc (Obj.cells #[.int .u8 ((ftB k.k).toNat:Int),.int .i64 (k.pos:Int),.int .i64 k.k.wd,.int .u64 k.k.nm,.string k.k.txt] 52):World);obtain⟨b1,b2,b3⟩:=yFp [.int .u8 0,.int .i64 0,.int .i64 0,.int .u64 0,.string ⟨#[]⟩] [.int .u8 ((ftB k.k).toNat:Int),.int .i64 (k.pos:Int),.int .i64 k.k.wd,.int .u64 k.k.nm,.string k.k.txt] hW0;have hbb:Below base w W0:=b3.mono hS.sz;have HW0:Hid (Fp base g b off n cap t d s k ks p nv W0∧FpS base b off n cap t W0∧yA W0 w.heap.size 52 5 w.heap.size [.int .u8 0,.int .i64 0,.int .i64 0,.int .u64 0,.string ⟨#[]⟩]∧yA W0 w.heap.size 52 5 (w.heap.size+1) (ftV k)∧Below base w W0∧Below w.heap.size w W0):=⟨h.below b3,hS.up hbb,b1,b2,hbb,b3⟩;have e0:=h.fs.cell (j:=2) rfl;have e1:=h.fs.cell (j:=3) rfl;have e2:=h.fs.cell (j:=4) rfl;have e3:=h.fs.cell (j:=5) rfl;have e4:=h.fs.cell (j:=6) rfl;have hgl:=h.fs.lt;have HNd:Hid (w.ownsRow base 65 7 nv s.out.length (yBn s.out)):=h.nds;have HTo:Hid (Toks ks∧s.ks=k::ks∧base≤w.heap.size):=⟨(Toks.tail h.tk h.nb hf).1,h.eq,hS.sz⟩;have HNx:Hid (Calls Tryz.prog 25 #[.pointer (some ⟨g,0,none⟩)] W0 (NxtP base g b off n cap (fpL k s.made (20-d) nv) t ks W0)):=by have h9:=HW0.1;have h8:=HW0.2.1;exact yMy h9.fs h8.bys (Nat.lt_of_lt_of_le h8.bl h8.sz) h8.nt h8.nl h8.nc h8.cm h9.pn (h9.nxg h8) h8.wds h8.err (h9.lx hf)
 clear hS h hbb b1 b2 b3;go_enter Tryz.func114,Tryz.ntmps114;go_upto_region 2 with fail;rw[←hW0];clear hW0 e0 e1 e2 e3 e4;go_wp2_with fail;refine HNx.mono ?_;rintro e w1 ⟨Hc1,(⟨hbd,rfl⟩|⟨hbd,k2,ks2,hk2,rfl,p2,hfs,hp2,hlx⟩)⟩
 ·have HD:Hid (TakP base g b off n cap t d s k nv w (Pf 2 (hdA ks)) w1):=by have hge:=HW0.1.fs.lt.1;refine⟨(Chg.of_below HW0.2.2.2.2.2).trans Hc1.out,.inr ⟨2,hdA ks,?_,rfl⟩⟩;rw[HTo.2.1];unfold yA9;exact if_pos hbd
  clear HNx;exact⟨rfl,HD.out⟩
 ·have HQ:Hid ((hdK ks).isBad=false∧ks=k2::ks2∧FsAt w1 base g b off n cap p2 (fpL k s.made (20-d) nv)∧p2≤n∧(k2.k.isFin=false→LexR (t.drop p2) p2 ks2)∧Chg (fun q=>q=g) W0 w1):=⟨hbd,hk2,hfs,hp2,hlx,Hc1.out⟩;have hB0:=HW0.2.2.1.chg Hc1.out (by omega);have hB1:=HW0.2.2.2.1.chg Hc1.out (by omega);have i0:=hfs.cell (j:=2) rfl;have i1:=hfs.cell (j:=3) rfl;have i2:=hfs.cell (j:=4) rfl;have i3:=hfs.cell (j:=5) rfl;have i4:=hfs.cell (j:=6) rfl;have z0:=hfs.frozen 2;have z1:=hfs.frozen 3;have z2:=hfs.frozen 4;have z3:=hfs.frozen 5;have z4:=hfs.frozen 6;have hgw:¬w.heap.size=g∧¬w.heap.size+1=g:=by omega
  obtain⟨W2,hW2⟩:∃V:World,V=setQ w1 g (.int .u8 ((ftB k2.k).toNat:Int)) (.int .i64 (k2.pos:Int)) (.int .i64 k2.k.wd) (.int .u64 k2.k.nm) (.string k2.k.txt):=⟨_,rfl⟩;have hc2:Chg (fun q=>q=g) w1 W2:=by rw[hW2];exact yPu _ _ _ _ _ _ _
  have HF2:Hid (FsAt W2 base g b off n cap p2 (fpL k2 s.made (20-d) nv)∧Chg (fun q=>q=g) W0 W2):=⟨by rw[hW2];exact FsAt.setQ hfs,Hc1.trans hc2⟩;have hB02:=hB0.chg hc2 hgw.1;have hB12:=hB1.chg hc2 hgw.2;have HB2:Hid (yA W2 w.heap.size 52 5 w.heap.size [.int .u8 0,.int .i64 0,.int .i64 0,.int .u64 0,.string ⟨#[]⟩]∧yA W2 w.heap.size 52 5 (w.heap.size+1) (ftV k)):=⟨hB02,hB12⟩;clear hbd hk2 hfs hp2 hlx hB0 hB1 HNx hc2 hB02 hB12;unfold setQ at hW2;go_upto_region 3 with fail;rw[←hW2];clear hW2 i0 i1 i2 i3 i4 z0 z1 z2 z3 z4;obtain⟨t0,t1,t2,t3,t4⟩:=HB2.2.c5;obtain⟨l0,l1,l2,l3,l4⟩:=HB2.1.c5;obtain⟨f0,f1,f2,f3,f4⟩:=HB2.1.f5;obtain⟨W9,hW9⟩:∃V:World,V=setP W2 w.heap.size (.int .u8 ((ftB k.k).toNat:Int)) (.int .i64 (k.pos:Int)) (.int .i64 k.k.wd) (.int .u64 k.k.nm) (.string k.k.txt):=⟨_,rfl⟩;have hB9:=HB2.1.setP (.int .u8 ((ftB k.k).toNat:Int)) (.int .i64 (k.pos:Int)) (.int .i64 k.k.wd) (.int .u64 k.k.nm) (.string k.k.txt);rw[←hW9]at hB9;have HR:Hid (TakP base g b off n cap t d s k nv w (.returned (.agg (ftV k).toArray)) W9):=by
   have hc9:Chg (fun q=>q=w.heap.size) W2 W9:=by rw[hW9];exact yCp _ _ _ _ _ _ _
   have h0:=HW0.1;have hge:=h0.fs.lt.1;have hq:=HQ.out;have hsz:=HTo.2.2;have hcA:Chg (fun q=>q=g∨q=w.heap.size) W0 W9:=⟨hc9.os.trans HF2.2.os,hc9.tape.trans HF2.2.tape,hc9.output.trans HF2.2.output,Nat.le_trans HF2.2.size hc9.size,fun q hq hn=>(hc9.block q (Nat.lt_of_lt_of_le hq HF2.2.size) (fun z=>hn (.inr z))).trans (HF2.2.block q hq (fun z=>hn (.inl z)))⟩;refine⟨Chg.comp (S:=fun q=>q=g) (Chg.of_below HW0.2.2.2.2.2) hcA (fun q hq z=>by omega),.inl ⟨k2,ks2,p2,?_,rfl,?_⟩⟩
   ·rw[HTo.2.1];unfold yA9;show(if(hdK ks).isBad=true then _ else _)=_;rw[if_neg (by rw[hq.1];simp)];show Except.ok ks=_;rw[hq.2.1]
   ·have hT2:Toks (k2::ks2):=by rw[←hq.2.1];exact HTo.1
    have hb2:k2.k.isBad=false:=by have:=hq.1;rw[hq.2.1]at this;exact this
    refine⟨rfl,yA.chg HF2.1 hc9 (by omega),hq.2.2.2.1,hq.2.2.2.2.1,hb2,hT2,h0.md,h0.dd,?_,h0.ap,by have h9:=h0.ol;rw[HTo.2.1,hq.2.1]at h9;simp at h9⊢;omega⟩;refine yA2 h0.nds hcA (fun q hq2 z=>?_);have h7:=h0.ap q hq2;have h8:=World.ownsRow.lt HNd.out q hq2;rcases z with z|z
    ·exact h7 z
    ·omega
  obtain⟨p0,p1⟩:=hB9.c2;have p2':=hB9.cell (j:=2) rfl;have p3:=hB9.cell (j:=3) rfl;have p4:=hB9.cell (j:=4) rfl;unfold setP at hW9;clear hB9;go_wp2_with fail;rw[←hW9];exact bodyPost_ret (v:=.agg (ftV k).toArray) (by simp[results,Tryz.results114,go_sem,p0,p1,p2',p3,p4]) rfl HR.out
theorem yGa {k:TkK} {b:UInt8} (h:k.isSign b=true):k.isFin=false:=by rw[TkK.isSign_eq h];rfl
theorem Fp.nlt (h:Fp base g b off n cap t d s k ks p nv w):∀q,nv.ownBlock=some q→base≤q∧q<w.heap.size:=World.ownsRow.lt h.nds
theorem Fp.make (h:Fp base g b off n cap t d s k ks p nv w) (hm:s.made<200):Fp base g b off n cap t d {s with made:=s.made+1} k ks p nv (w.setCell ⟨g,7,none⟩ (.int .i64 ((s.made:Int)+1))):=by have hc:Chg (fun q=>q=g) w (w.setCell ⟨g,7,none⟩ (.int .i64 ((s.made:Int)+1))):=Chg.of_set _ _ _ _ rfl;exact⟨h.eq,yA.set h.fs 7 (.int .i64 ((s.made:Int)+1)),h.pn,h.lx,h.nb,h.tk,by show s.made+1≤200;omega,h.dd,yA2 h.nds hc (fun q hq z=>h.ap q hq z),h.ap,h.ol⟩
theorem Fp.deep {d':Nat} (h:Fp base g b off n cap t d s k ks p nv w) (hd:d'≤20) (u:Value) (hu:u=.int .i64 ((20-d':Nat):Int)):Fp base g b off n cap t d' s k ks p nv (w.setCell ⟨g,8,none⟩ u):=by have hc:Chg (fun q=>q=g) w (w.setCell ⟨g,8,none⟩ u):=Chg.of_set _ _ _ _ rfl;subst hu;exact⟨h.eq,yA.set h.fs 8 (.int .i64 ((20-d':Nat):Int)),h.pn,h.lx,h.nb,h.tk,h.md,hd,yA2 h.nds hc (fun q hq z=>h.ap q hq z),h.ap,h.ol⟩
variable {s1:Ps}
theorem FpO.box {A:PR Ps→Prop} {V:Value} {W0 w3 W9:World} {k2:Tk} {ks2:List Tk} {p2:Nat} {B:Nat} (hA:A (.ok s1)) (hF:Fp base g b off n cap t d s1 k2 ks2 p2 nv w3) (hc0:Chg (fun q=>q=g∨nv.ownBlock=some q) w W0) (hc3:Chg (fun q=>q=g) W0 w3) (hc9:Chg (fun q=>q=B) w3 W9) (hB:¬B=g∧w.heap.size≤B) (hn:∀q,nv.ownBlock=some q→q<w.heap.size):FpO base g b off n cap t d A V nv w (.returned V) W9:=by refine⟨Chg.comp (Chg.comp hc0 hc3 (fun q _ z=>.inl z)) hc9 (fun q hq z=>by omega),.inl ⟨s1,hA,rfl,k2,ks2,p2,nv,hF.chg hc9 (fun q=>hB.1 q.symm) (fun q hq z=>by have:=hn q hq;omega),fun q hq=>.inl hq⟩⟩
theorem yD2 (hS:FpS base b off n cap t w) (h:Fp base g b off n cap t d s k ks p nv w) {bb:UInt8} (hbb:bb=40∨bb=41∨bb=44∨bb=62∨bb=124∨bb=46):
  Calls Tryz.prog 127 #[.pointer (some ⟨g,0,none⟩),.int .u8 (bb.toNat:Int)] w (FpO base g b off n cap t d (fun r=>r=s.to (yAs bb s.ks)) (.agg (ftV k).toArray) nv w):=by
 obtain⟨W0,hW0⟩:=qE (w.alloc (Obj.cells #[.int .u8 0,.int .i64 0,.int .i64 0,.int .u64 0,.string ⟨#[]⟩] 52):World);have b3:Below w.heap.size w W0:=by rw[hW0];exact qB
 have b1:yA W0 w.heap.size 52 5 w.heap.size [.int .u8 0,.int .i64 0,.int .i64 0,.int .u64 0,.string ⟨#[]⟩]:=by rw[hW0];exact yAb w _ (Nat.le_refl _) rfl
 have hbs:Below base w W0:=b3.mono hS.sz;have hnl:=h.nlt;have HW0:Hid (yA W0 w.heap.size 52 5 w.heap.size [.int .u8 0,.int .i64 0,.int .i64 0,.int .u64 0,.string ⟨#[]⟩]∧Fp base g b off n cap t d s k ks p nv W0∧FpS base b off n cap t W0∧Chg (fun q=>q=g∨nv.ownBlock=some q) w W0∧(∀q,nv.ownBlock=some q→q<w.heap.size)):=⟨b1,h.below b3,hS.up hbs,Chg.of_below b3,fun q hq=>(hnl q hq).2⟩;have hgl:=h.fs.lt;have HEq:Hid (s.ks=k::ks):=h.eq;have cK:=(h.below b3).fs.cell (j:=2) rfl;have hsg:=yJo h.kinds hbb;obtain⟨kb,hkb⟩:=qE (((ftB k.k).toNat:Int):Int);obtain⟨bi,hbi⟩:=qE ((bb.toNat:Int):Int);rw[←hkb,←hbi]at hsg;rw[←hkb]at cK;rw[←hbi];clear h hS b1 b3 hbs hbi hkb hnl;cases hsn:k.k.isSign bb
 case false=>
  rw[hsn]at hsg;have HD:Hid (FpO base g b off n cap t d (fun r=>r=s.to (yAs bb s.ks)) (.agg (ftV k).toArray) nv w (Pf 3 (k.pos:Int)) W0):=by refine⟨HW0.2.2.2.1,.inr ⟨3,k.pos,?_,rfl⟩⟩;unfold yAs;rw[HEq.out];show _=s.to (if k.k.isSign bb=true then _ else _);rw[if_neg (by rw[hsn];simp)];rfl
  clear hsn;go_enter Tryz.func127,Tryz.ntmps127;go_upto_region 1 with fail;rw[←hW0];clear hW0;go_wp2_with fail;refine(yEg HW0.2.1 3).mono ?_;rintro e w2 ⟨rfl,hw2⟩;rw[hw2];clear hw2;exact⟨rfl,HD.out⟩
 case true=>
  rw[hsn]at hsg;have HTk:Hid (Calls Tryz.prog 114 #[.pointer (some ⟨g,0,none⟩)] W0 (TakP base g b off n cap t d s k nv W0)):=yDh HW0.2.2.1 HW0.2.1 (yGa hsn);have HEx:Hid (yAs bb s.ks=yA9 s.ks):=by show _=_;unfold yAs;rw[if_pos (by rw[HEq.out];exact hsn)]
  clear hsn;go_enter Tryz.func127,Tryz.ntmps127;go_upto_region 1 with fail;rw[←hW0];clear hW0;go_wp2_with fail;refine(yCo _ 3 W0).mono ?_;rintro e w2 ⟨rfl,hw2⟩;rw[hw2];clear hw2;go_wp2_with fail;refine HTk.mono ?_;rintro e w3 ⟨Hb3,(⟨k2,ks2,p2,htk,rfl,hF3⟩|⟨c,a,htk,rfl⟩)⟩
  ·have hBx:=HW0.1.chg Hb3.out (by omega);have HF3:Hid (Fp base g b off n cap t d {s with ks:=k2::ks2} k2 ks2 p2 nv w3∧yA9 s.ks=.ok (k2::ks2)∧Chg (fun q=>q=g) W0 w3):=⟨hF3,htk,Hb3.out⟩;clear htk hF3 HTk cK;obtain⟨l0,l1,l2,l3,l4⟩:=hBx.c5;obtain⟨f0,f1,f2,f3,f4⟩:=hBx.f5;obtain⟨W9,hW9⟩:∃V:World,V=setP w3 w.heap.size (.int .u8 ((ftB k.k).toNat:Int)) (.int .i64 (k.pos:Int)) (.int .i64 k.k.wd) (.int .u64 k.k.nm) (.string k.k.txt):=⟨_,rfl⟩;have hB9:=hBx.setP (.int .u8 ((ftB k.k).toNat:Int)) (.int .i64 (k.pos:Int)) (.int .i64 k.k.wd) (.int .u64 k.k.nm) (.string k.k.txt);rw[←hW9]at hB9;have hc9:Chg (fun q=>q=w.heap.size) w3 W9:=by rw[hW9];exact yCp _ _ _ _ _ _ _
   have HR:Hid (FpO base g b off n cap t d (fun r=>r=s.to (yAs bb s.ks)) (.agg (ftV k).toArray) nv w (.returned (.agg (ftV k).toArray)) W9):=FpO.box (by show _=_;rw[HEx.out,HF3.2.1];rfl) HF3.1 HW0.2.2.2.1 HF3.2.2 hc9 (by omega) HW0.2.2.2.2;obtain⟨p0,p1⟩:=hB9.c2;have p2':=hB9.cell (j:=2) rfl;have p3:=hB9.cell (j:=3) rfl;have p4:=hB9.cell (j:=4) rfl;unfold setP at hW9;clear hB9 hc9;go_wp2_with fail;rw[←hW9];exact bodyPost_ret (v:=.agg (ftV k).toArray) (by simp[results,Tryz.results127,go_sem,p0,p1,p2',p3,p4]) rfl HR.out
  ·have HD:Hid (FpO base g b off n cap t d (fun r=>r=s.to (yAs bb s.ks)) (.agg (ftV k).toArray) nv w (Pf c (a:Int)) w3):=⟨Chg.comp HW0.2.2.2.1 Hb3.out (fun q _ z=>.inl z),.inr ⟨c,a,by rw[HEx.out,htk];rfl,rfl⟩⟩;clear htk HTk;exact⟨rfl,HD.out⟩
theorem yEc (hS:FpS base b off n cap t w) (h:Fp base g b off n cap t d s k ks p nv w) (hf:k.k.isFin=false):
  Calls Tryz.prog 95 #[.pointer (some ⟨g,0,none⟩)] w (FpO base g b off n cap t d (fun r=>r=yAy s) (.agg (ftV k).toArray) nv w):=by
 obtain⟨W0,hW0⟩:=qE (w.alloc (Obj.cells #[.int .u8 0,.int .i64 0,.int .i64 0,.int .u64 0,.string ⟨#[]⟩] 52):World);have b3:Below w.heap.size w W0:=by rw[hW0];exact qB
 have b1:yA W0 w.heap.size 52 5 w.heap.size [.int .u8 0,.int .i64 0,.int .i64 0,.int .u64 0,.string ⟨#[]⟩]:=by rw[hW0];exact yAb w _ (Nat.le_refl _) rfl
 have hbs:Below base w W0:=b3.mono hS.sz;have hnl:=h.nlt;have HW0:Hid (yA W0 w.heap.size 52 5 w.heap.size [.int .u8 0,.int .i64 0,.int .i64 0,.int .u64 0,.string ⟨#[]⟩]∧Fp base g b off n cap t d s k ks p nv W0∧FpS base b off n cap t W0∧Chg (fun q=>q=g∨nv.ownBlock=some q) w W0∧(∀q,nv.ownBlock=some q→q<w.heap.size)):=⟨b1,h.below b3,hS.up hbs,Chg.of_below b3,fun q hq=>(hnl q hq).2⟩;have hgl:=h.fs.lt;have HEq:Hid (s.ks=k::ks):=h.eq;have cM:=(h.below b3).fs.cell (j:=7) rfl;have fM:=(h.below b3).fs.frozen 7;have hmd:=h.md;clear h hS b1 b3 hbs hnl;by_cases hm:s.made<200
 ·have zm:decide ((s.made:Int)<200)=true:=decide_eq_true (by omega);have zw:IntKind.i64.wrap ((s.made:Int)+1)=(s.made:Int)+1:=wrap64 (by omega) (by omega);obtain⟨W1,hW1⟩:=qE (W0.setCell ⟨g,7,none⟩ (.int .i64 ((s.made:Int)+1)):World);have hc1:Chg (fun q=>q=g) W0 W1:=by rw[hW1];exact Chg.of_set _ _ _ _ rfl
  have HW1:Hid (Fp base g b off n cap t d {s with made:=s.made+1} k ks p nv W1∧FpS base b off n cap t W1∧yA W1 w.heap.size 52 5 w.heap.size [.int .u8 0,.int .i64 0,.int .i64 0,.int .u64 0,.string ⟨#[]⟩]∧Chg (fun q=>q=g) W0 W1):=⟨by rw[hW1];exact HW0.2.1.make hm,HW0.2.2.1.chg hc1 (fun q z=>by omega),HW0.1.chg hc1 (by omega),hc1⟩;have HTk:Hid (Calls Tryz.prog 114 #[.pointer (some ⟨g,0,none⟩)] W1 (TakP base g b off n cap t d {s with made:=s.made+1} k nv W1)):=yDh HW1.2.1 HW1.1 hf;have HEx:Hid (yAy s=Ps.to {s with made:=s.made+1} (yA9 s.ks)):=by show _=_;unfold yAy;rw[if_pos hm]
  clear hc1;go_enter Tryz.func95,Tryz.ntmps95;go_upto_region 1 with fail;rw[←hW0];clear hW0;go_wp2_with fail;refine(yCo _ 5 W0).mono ?_;rintro e w2 ⟨rfl,hw2⟩;rw[hw2];clear hw2;go_upto_region 3 with fail;rw[←hW1];clear hW1 cM fM;go_wp2_with fail;refine HTk.mono ?_;rintro e w3 ⟨Hb3,(⟨k2,ks2,p2,htk,rfl,hF3⟩|⟨c,a,htk,rfl⟩)⟩
  ·have hBx:=HW1.2.2.1.chg Hb3.out (by omega);have HF3:Hid (Fp base g b off n cap t d {ks:=k2::ks2,made:=s.made+1,out:=s.out} k2 ks2 p2 nv w3∧yA9 s.ks=.ok (k2::ks2)∧Chg (fun q=>q=g) W0 w3):=⟨hF3,htk,HW1.2.2.2.trans Hb3.out⟩;clear htk hF3 HTk;obtain⟨l0,l1,l2,l3,l4⟩:=hBx.c5;obtain⟨f0,f1,f2,f3,f4⟩:=hBx.f5;obtain⟨W9,hW9⟩:∃V:World,V=setP w3 w.heap.size (.int .u8 ((ftB k.k).toNat:Int)) (.int .i64 (k.pos:Int)) (.int .i64 k.k.wd) (.int .u64 k.k.nm) (.string k.k.txt):=⟨_,rfl⟩;have hB9:=hBx.setP (.int .u8 ((ftB k.k).toNat:Int)) (.int .i64 (k.pos:Int)) (.int .i64 k.k.wd) (.int .u64 k.k.nm) (.string k.k.txt);rw[←hW9]at hB9;have hc9:Chg (fun q=>q=w.heap.size) w3 W9:=by rw[hW9];exact yCp _ _ _ _ _ _ _
   have HR:Hid (FpO base g b off n cap t d (fun r=>r=yAy s) (.agg (ftV k).toArray) nv w (.returned (.agg (ftV k).toArray)) W9):=FpO.box (by show _=_;rw[HEx.out,HF3.2.1];rfl) HF3.1 HW0.2.2.2.1 HF3.2.2 hc9 (by omega) HW0.2.2.2.2;obtain⟨p0,p1⟩:=hB9.c2;have p2':=hB9.cell (j:=2) rfl;have p3:=hB9.cell (j:=3) rfl;have p4:=hB9.cell (j:=4) rfl;unfold setP at hW9;clear hB9 hc9;go_wp2_with fail;rw[←hW9];exact bodyPost_ret (v:=.agg (ftV k).toArray) (by simp[results,Tryz.results95,go_sem,p0,p1,p2',p3,p4]) rfl HR.out
  ·have HD:Hid (FpO base g b off n cap t d (fun r=>r=yAy s) (.agg (ftV k).toArray) nv w (Pf c (a:Int)) w3):=⟨Chg.comp HW0.2.2.2.1 (HW1.2.2.2.trans Hb3.out) (fun q _ z=>.inl z),.inr ⟨c,a,by rw[HEx.out,htk];rfl,rfl⟩⟩;clear htk HTk;exact⟨rfl,HD.out⟩
 ·have zm:decide ((s.made:Int)<200)=false:=decide_eq_false (by omega);have HD:Hid (FpO base g b off n cap t d (fun r=>r=yAy s) (.agg (ftV k).toArray) nv w (Pf 5 (k.pos:Int)) W0):=by refine⟨HW0.2.2.2.1,.inr ⟨5,k.pos,?_,rfl⟩⟩;show _=yAy s;unfold yAy;rw[if_neg hm,HEq.out];rfl
  go_enter Tryz.func95,Tryz.ntmps95;go_upto_region 1 with fail;rw[←hW0];clear hW0;go_wp2_with fail;refine(yEg HW0.2.1 5).mono ?_;rintro e w2 ⟨rfl,hw2⟩;rw[hw2];clear hw2;exact⟨rfl,HD.out⟩
theorem yK9 (hS:FpS base b off n cap t w) (h:Fp base g b off n cap t d s k ks p nv w):
  Calls Tryz.prog 115 #[.pointer (some ⟨g,0,none⟩)] w (FpO base g b off n cap t (d-1) (fun r=>r=yAz d s) (.tuple #[]) nv w):=by
 have HF:Hid (Fp base g b off n cap t d s k ks p nv w∧FpS base b off n cap t w∧s.ks=k::ks):=⟨h,hS,h.eq⟩;have hgl:=h.fs.lt;have cK:=h.fs.cell (j:=2) rfl;have cO:=h.fs.cell (j:=8) rfl;have fO:=h.fs.frozen 8;have hdd:=h.dd;have hsg:=yJo (b:=40) h.kinds (.inl rfl);have hsg':(((ftB k.k).toNat:Int)==40)=k.k.isSign 40:=hsg;have HC0:Hid (Chg (fun q=>q=g∨nv.ownBlock=some q) w w):=Chg.of_below (Below.refl _ _);obtain⟨kb,hkb⟩:=qE (((ftB k.k).toNat:Int):Int);rw[←hkb]at hsg' cK;clear h hS hsg hkb;cases hsn:k.k.isSign 40
 case false=>
  rw[hsn]at hsg';have HD:Hid (FpO base g b off n cap t (d-1) (fun r=>r=yAz d s) (.tuple #[]) nv w (Pf 3 (k.pos:Int)) w):=by
   refine⟨HC0.out,.inr ⟨3,k.pos,?_,rfl⟩⟩;show _=yAz d s;unfold yAz;rw[HF.2.2];show _=if k.k.isSign 40=true then _ else _
   rw[if_neg (by rw[hsn];simp)];rfl
  clear hsn;go_enter Tryz.func115,Tryz.ntmps115;go_wp2_with fail;refine(yEg HF.1 3).mono ?_;rintro e w2 ⟨rfl,hw2⟩;rw[hw2];clear hw2;exact⟨rfl,HD.out⟩
 case true=>
 rw[hsn]at hsg';have HEn:Hid (yAz d s=if d=0 then .error (4,k.pos)else s.to (yA9 s.ks)):=by show yAz d s=_;unfold yAz;rw[if_pos (by rw[HF.2.2];exact hsn),HF.2.2];rfl
 have Hnf:Hid (k.k.isFin=false):=yGa hsn;clear hsn;by_cases hd:d=0
 ·have zo:decide (((20-d:Nat):Int)<20)=false:=decide_eq_false (by omega);have HD:Hid (FpO base g b off n cap t (d-1) (fun r=>r=yAz d s) (.tuple #[]) nv w (Pf 4 (k.pos:Int)) w):=by refine⟨HC0.out,.inr ⟨4,k.pos,?_,rfl⟩⟩;show _=yAz d s;rw[HEn.out,if_pos hd]
  obtain⟨op,hop⟩:=qE (((20-d:Nat):Int):Int);rw[←hop]at zo cO;clear hd hop;go_enter Tryz.func115,Tryz.ntmps115;go_wp2_with fail;refine(yCo _ 3 w).mono ?_;rintro e w2 ⟨rfl,hw2⟩;rw[hw2];clear hw2;go_wp2_with fail;refine(yEg HF.1 4).mono ?_;rintro e w2 ⟨rfl,hw2⟩;rw[hw2];clear hw2;exact⟨rfl,HD.out⟩
 ·have zo:decide (((20-d:Nat):Int)<20)=true:=decide_eq_true (by omega);obtain⟨W1,hW1⟩:=qE (w.setCell ⟨g,8,none⟩ (.int .i64 (((20-d:Nat):Int)+1)):World);have hc1:Chg (fun q=>q=g) w W1:=by rw[hW1];exact Chg.of_set _ _ _ _ rfl
  have HW1:Hid (Fp base g b off n cap t (d-1) s k ks p nv W1∧FpS base b off n cap t W1∧Chg (fun q=>q=g) w W1):=⟨by rw[hW1];exact HF.1.deep (d':=d-1) (by omega) _ (by congr 1;omega),HF.2.1.chg hc1 (fun q z=>by omega),hc1⟩;have HTk:Hid (Calls Tryz.prog 114 #[.pointer (some ⟨g,0,none⟩)] W1 (TakP base g b off n cap t (d-1) s k nv W1)):=yDh HW1.2.1 HW1.1 Hnf.out;have HEx:Hid (yAz d s=s.to (yA9 s.ks)):=by show _=_;rw[HEn.out,if_neg hd]
  have zw:IntKind.i64.wrap (((20-d:Nat):Int)+1)=((20-d:Nat):Int)+1:=wrap64 (by omega) (by omega);obtain⟨op,hop⟩:=qE (((20-d:Nat):Int):Int);rw[←hop]at zo cO hW1 zw;clear hd hop hc1;go_enter Tryz.func115,Tryz.ntmps115;go_wp2_with fail;refine(yCo _ 3 w).mono ?_;rintro e w2 ⟨rfl,hw2⟩;rw[hw2];clear hw2;go_wp2_with fail;refine(yCo _ 4 w).mono ?_;rintro e w2 ⟨rfl,hw2⟩;rw[hw2];clear hw2;go_upto_region 3 with fail;rw[←hW1];clear hW1 cO fO;go_wp2_with fail;refine HTk.mono ?_;rintro e w3 ⟨Hb3,(⟨k2,ks2,p2,htk,rfl,hF3⟩|⟨c,a,htk,rfl⟩)⟩
  ·have HR:Hid (FpO base g b off n cap t (d-1) (fun r=>r=yAz d s) (.tuple #[]) nv w (.returned (.tuple #[])) w3):=⟨Chg.comp HC0.out (HW1.2.2.trans Hb3.out) (fun q _ z=>.inl z),.inl ⟨_,by rw[HEx.out,htk];rfl,rfl,k2,ks2,p2,nv,hF3,fun q hq=>.inl hq⟩⟩;clear htk hF3 HTk;go_wp2_with fail;go_end0;exact HR.out
  ·have HD:Hid (FpO base g b off n cap t (d-1) (fun r=>r=yAz d s) (.tuple #[]) nv w (Pf c (a:Int)) w3):=⟨Chg.comp HC0.out (HW1.2.2.trans Hb3.out) (fun q _ z=>.inl z),.inr ⟨c,a,by rw[HEx.out,htk];rfl,rfl⟩⟩;clear htk HTk;exact⟨rfl,HD.out⟩
theorem yK4 (hS:FpS base b off n cap t w) (h:Fp base g b off n cap t d s k ks p nv w) (hd:d<20):
  Calls Tryz.prog 116 #[.pointer (some ⟨g,0,none⟩)] w (FpO base g b off n cap t (d+1) (fun r=>r=yB5 s) (.tuple #[]) nv w):=by
 have HEx:Hid (Calls Tryz.prog 127 #[.pointer (some ⟨g,0,none⟩),.int .u8 41] w (FpO base g b off n cap t d (fun r=>r=s.to (yAs 41 s.ks)) (.agg (ftV k).toArray) nv w)):=yD2 hS h (bb:=41) (.inr (.inl rfl));have hgl:=h.fs.lt;clear h hS;go_enter Tryz.func116,Tryz.ntmps116;go_wp2_with fail;refine HEx.mono ?_;rintro e w3 ⟨Hc3,(⟨s1,hs1,rfl,k2,ks2,p2,nv2,hF3,hn2⟩|⟨c,a,hs1,rfl⟩)⟩
 ·have cO:=hF3.fs.cell (j:=8) rfl;have fO:=hF3.fs.frozen 8;have HR:Hid (FpO base g b off n cap t (d+1) (fun r=>r=yB5 s) (.tuple #[]) nv w (.returned (.tuple #[])) (w3.setCell ⟨g,8,none⟩ (.int .i64 (((20-d:Nat):Int)-1)))):=by have hc:Chg (fun q=>q=g) w3 (w3.setCell ⟨g,8,none⟩ (.int .i64 (((20-d:Nat):Int)-1))):=Chg.of_set _ _ _ _ rfl;exact⟨Chg.comp Hc3.out hc (fun q _ z=>.inl z),.inl ⟨s1,hs1,rfl,k2,ks2,p2,nv2,hF3.deep (d':=d+1) (by omega) _ (by congr 1;omega),hn2⟩⟩
  have zw:IntKind.i64.wrap (((20-d:Nat):Int)-1)=((20-d:Nat):Int)-1:=wrap64 (by omega) (by omega);obtain⟨op,hop⟩:=qE (((20-d:Nat):Int):Int);rw[←hop]at cO HR zw;clear hF3 hs1 hn2 hop HEx;go_wp2_with fail;go_end0;exact HR.out
 ·have HD:Hid (FpO base g b off n cap t (d+1) (fun r=>r=yB5 s) (.tuple #[]) nv w (Pf c (a:Int)) w3):=⟨Hc3.out,.inr ⟨c,a,hs1,rfl⟩⟩;clear hs1 HEx;exact⟨rfl,HD.out⟩
theorem yEi (h:yA9 ks=.ok ks'):ks'.length≤ks.length∧(ks≠ []→ks'.length<ks.length):=by
 unfold yA9 at h;split at h
 ·cases h
 ·cases h
  cases ks with
  |nil=>exact⟨Nat.le_refl _,fun q=>absurd rfl q⟩
  |cons a l=>exact⟨by simp,fun _=>by simp⟩
theorem yDg (h:yAy s=.ok s1):(s1.ks.length≤s.ks.length∧s1.out=s.out)∧(s.ks≠ []→s1.ks.length<s.ks.length):=by
 unfold yAy at h;split at h
 ·cases hq:yA9 s.ks with
  |error e=>rw[hq]at h;cases h
  |ok ks=>rw[hq]at h;cases h;exact⟨⟨(yEi hq).1,rfl⟩,(yEi hq).2⟩
 ·cases h
def MonR (R:Ps→PR Ps→Prop):Prop:=∀s s1,R s (.ok s1)→s1.ks.length≤s.ks.length∧s1.out.length+s1.ks.length≤s.out.length+s.ks.length
theorem Fp.form (h:Fp base g b off n cap t d s k ks p nv w):∃a m c,nv=.slice a m c:=by
 rcases h.nds.2 with⟨q,_⟩|⟨g',cap',cur,q,_⟩
 ·exact⟨_,_,_,q⟩
 ·exact⟨_,_,_,q⟩
theorem yEh {ops:Array Oper} {rest:List Oper} {o:Oper} {a:Act} {Q:Exit→Act→World→Prop} (w:World) (hgd:o.guard=none) (s x:Operand)
  (ho:o.op=.call {callee:=.builtin .append,args:=#[s,x],argTypes:=#[23,23]})
  (base:Nat) (v:Value) (b off m cx:Nat) (fs:List Nd) (e:Nd) (hs:a.eval s=v) (hx:a.eval x=.slice (some ⟨b,off,none⟩) m cx) (hm:m=1) (hO:w.ownsRow base 65 7 v fs.length (yBn fs))
  (hc:yBj w b off [e]) (hlen:fs.length≤1000000) (hbase:base≤w.heap.size)
  (h:∀g' cp' w',w'.ownsRow base 65 7 (.slice (some ⟨g',0,none⟩) (fs.length+1) cp') (fs++ [e]).length (yBn (fs++ [e]))→w.grownBy w' v.ownBlock→(v.ownBlock=some g'∨g'=w.heap.size)→wpList Tryz.prog ops Q rest (a.put o.dst (.slice (some ⟨g',0,none⟩) (fs.length+1) cp')) w'):wpList Tryz.prog ops Q (o::rest) a w:=by
 subst hm;obtain⟨i,hi,hz0,hz1,hz2⟩:=info_parts Tryz.infoNd;refine wpList_append_own_at w hgd s x 23 ho base 65 i _ 7 72 Tryz.underlying23 hi hz0 hz1 hz2 rfl (by decide) v fs.length (yBn fs) hs hO ⟨b,off,none⟩ 1 cx (yBn [e]) hx (yC8 [e]) (yJf hc) (yOa [e]) ?_ ?_ hbase ?_
 ·unfold maxLen;omega
 ·omega
 ·intro v' w' hO' hgr hnil hat;rcases hO'.2 with⟨h0,_⟩|⟨g',cap',cur,hv,_,_,hn,hcap,_,_⟩
  ·have:=(hnil.1 h0).2;simp at this
  ·subst hv;refine h g' cap' w' ?_ hgr ?_
   ·rw[List.length_append,yFa];exact hO'
   ·rcases hat with z|z
    ·left;rw[←z];rfl
    ·right;simpa [Value.ownBlock]using z
def OprC (base g b off n cap:Nat) (t:List UInt8) (d:Nat) (F:Nat) (R:Ps→PR Ps→Prop):Prop:=∀(w:World) (s:Ps) (k:Tk) (ks:List Tk) (p:Nat) (nv:Value),FpS base b off n cap t w→Fp base g b off n cap t d s k ks p nv w→Calls Tryz.prog F #[.pointer (some ⟨g,0,none⟩)] w (FpO base g b off n cap t d (R s) (.tuple #[]) nv w)
structure JnJ (base g b off n cap:Nat) (t:List UInt8) (d:Nat) (sg:UInt8) (kd:Int) (R:Ps→PR Ps→Prop) (nv0:Value) (w:World) (s1 s2:Ps) (k:Tk) (ks:List Tk) (p:Nat) (nv:Value) (wr:World):Prop where
 fp:Fp base g b off n cap t d s2 k ks p nv wr
 fs:FpS base b off n cap t wr
 chg:Chg (fun q=>q=g∨nv0.ownBlock=some q) w wr
 loc:∀q,nv.ownBlock=some q→nv0.ownBlock=some q∨w.heap.size≤q
 stp:∀r,yHz sg kd R s2 r→yHz sg kd R s1 r
theorem FpS.of (h:FpS base b off n cap t w) (hF:Fp base g b off n cap t d s k ks p nv w) (hc:Chg (fun q=>q=g∨nv.ownBlock=some q) w w'):FpS base b off n cap t w':=
 h.chg hc (fun q z=>by rcases z with z|z
                       ·rw[z];exact hF.fs.lt.1
                       ·exact(hF.nlt q z).1)
variable {R:Ps→PR Ps→Prop}
theorem yOg (HO:OprC base g b off n cap t d 96 R) (hM:MonR R) (hS:FpS base b off n cap t w) (h:Fp base g b off n cap t d s k ks p nv w):
  Calls Tryz.prog 63 #[.pointer (some ⟨g,0,none⟩),.int .u8 62,.int .i64 14,.func (Fn.func 96) #[.pointer (some ⟨g,0,none⟩)] #[]] w (FpO base g b off n cap t d (yDf 62 14 R s) (.tuple #[]) nv w):=by
 have H0:Hid (OprC base g b off n cap t d 96 R∧MonR R∧FpS base b off n cap t w∧Fp base g b off n cap t d s k ks p nv w):=⟨HO,hM,hS,h⟩;have hgl:=h.fs.lt;have HC0:Hid (Calls Tryz.prog 96 #[.pointer (some ⟨g,0,none⟩)] w (FpO base g b off n cap t d (R s) (.tuple #[]) nv w)):=HO w s k ks p nv hS h;clear HO hM hS h;go_enter Tryz.func63,Tryz.ntmps63;go_wp2_with fail;refine HC0.mono ?_;rintro e w1 ⟨Hc1,(⟨s1,hs1,rfl,k1,ks1,p1,nv1,hF1,hn1⟩|⟨c,a,hs1,rfl⟩)⟩;case inr=>
  have HD:Hid (FpO base g b off n cap t d (yDf 62 14 R s) (.tuple #[]) nv w (Pf c (a:Int)) w1):=⟨Hc1.out,.inr ⟨c,a,.inl ⟨_,hs1,rfl⟩,rfl⟩⟩;clear hs1 HC0;exact⟨rfl,HD.out⟩
 have HR1:Hid (R s (.ok s1)):=hs1;have HJ1:Hid (JnJ base g b off n cap t d 62 14 R nv w s1 s1 k1 ks1 p1 nv1 w1):=⟨hF1,H0.2.2.1.of H0.2.2.2 Hc1.out,Hc1.out,hn1,fun r q=>q⟩;have hsz1:=Hc1.size;clear hs1 hF1 hn1 HC0;go_wp2_with fail;go_loopg[] (s1.ks.length) (fun gk wr=>∃(s2:Ps) (k2:Tk) (ks2:List Tk) (p2:Nat) (nv2:Value),s2.ks.length≤gk∧JnJ base g b off n cap t d 62 14 R nv w s1 s2 k2 ks2 p2 nv2 wr);case atStart=>exact⟨s1,k1,ks1,p1,nv1,Nat.le_refl _,HJ1.out⟩
 case round=>
  clear HJ1;obtain⟨s2,k2,ks2,p2,nv2,hlen,hJ⟩:=hrel;have HJ:Hid (JnJ base g b off n cap t d 62 14 R nv w s1 s2 k2 ks2 p2 nv2 wr∧s2.ks.length≤gk):=⟨hJ,hlen⟩;have cK:=hJ.fp.fs.cell (j:=2) rfl;have hsg:=yJo (b:=62) hJ.fp.kinds (by decide);have hsg':(((ftB k2.k).toNat:Int)==62)=k2.k.isSign 62:=hsg;have HEq:Hid (s2.ks=k2::ks2):=hJ.fp.eq;have szr:=hJ.chg.size;have hnl:=hJ.fp.nlt;obtain⟨kb,hkb⟩:=qE (((ftB k2.k).toNat:Int):Int);rw[←hkb]at hsg' cK;clear hJ hlen hsg hkb;cases hsn:k2.k.isSign 62
  case false=>rw[hsn]at hsg';have HR:Hid (FpO base g b off n cap t d (yDf 62 14 R s) (.tuple #[]) nv w (.returned (.tuple #[])) wr):=⟨HJ.1.chg,.inl ⟨s2,.inr ⟨s1,HR1.out,HJ.1.stp _ (.stop (by rw[HEq.out];exact hsn))⟩,rfl,k2,ks2,p2,nv2,HJ.1.fp,HJ.1.loc⟩⟩;clear hsn hnl;go_wp2_with fail;go_end0;exact HR.out
  case true=>
  rw[hsn]at hsg';have Hsn:Hid ((hdK s2.ks).isSign 62=true):=by show _=_;rw[HEq.out];exact hsn
  have HMk:Hid (Calls Tryz.prog 95 #[.pointer (some ⟨g,0,none⟩)] wr (FpO base g b off n cap t d (fun r=>r=yAy s2) (.agg (ftV k2).toArray) nv2 wr)):=yEc HJ.1.fs HJ.1.fp (yGa hsn);have HL:Hid (∀q,nv2.ownBlock=some q→base≤q∧q<wr.heap.size):=hnl;clear hsn hnl;go_wp2_with fail;refine HMk.mono ?_;rintro e w3 ⟨Hc3,(⟨s3,hs3,rfl,k3,ks3,p3,nv3,hF3,hn3⟩|⟨c,a,hs3,rfl⟩)⟩;case inr=>
   have HD:Hid (FpO base g b off n cap t d (yDf 62 14 R s) (.tuple #[]) nv w (Pf c (a:Int)) w3):=⟨Chg.comp HJ.1.chg Hc3.out (fun q hq z=>by
    rcases z with z|z
    ·exact .inl z
    ·rcases HJ.1.loc q z with y|y
     ·exact .inr y
     ·omega),.inr ⟨c,a,.inr ⟨s1,HR1.out,HJ.1.stp _ (.e1 Hsn.out hs3.symm)⟩,rfl⟩⟩
   clear hs3 HMk;exact⟨rfl,HD.out⟩
  have hcw3:Chg (fun q=>q=g∨nv.ownBlock=some q) w w3:=Chg.comp HJ.1.chg Hc3.out (fun q hq z=>by
    rcases z with z|z
    ·exact .inl z
    ·rcases HJ.1.loc q z with y|y
     ·exact .inr y
     ·omega)
  have hloc3:∀q,nv3.ownBlock=some q→nv.ownBlock=some q∨w.heap.size≤q:=fun q hq=>by
   rcases hn3 q hq with y|y
   ·exact HJ.1.loc q y
   ·right;omega
  have H3:Hid (Fp base g b off n cap t d s3 k3 ks3 p3 nv3 w3∧FpS base b off n cap t w3∧Chg (fun q=>q=g∨nv.ownBlock=some q) w w3∧(∀q,nv3.ownBlock=some q→nv.ownBlock=some q∨w.heap.size≤q)∧yAy s2=.ok s3):=⟨hF3,HJ.1.fs.of HJ.1.fp Hc3.out,hcw3,hloc3,hs3.symm⟩;have HC3:Hid (Calls Tryz.prog 96 #[.pointer (some ⟨g,0,none⟩)] w3 (FpO base g b off n cap t d (R s3) (.tuple #[]) nv3 w3)):=H0.1 w3 s3 k3 ks3 p3 nv3 H3.2.1 hF3;have sz3:=hcw3.size;clear hs3 hF3 hn3 hcw3 hloc3 HMk cK;go_wp2_with fail;refine HC3.mono ?_;rintro e w4 ⟨Hc4,(⟨s4,hs4,rfl,k4,ks4,p4,nv4,hF4,hn4⟩|⟨c,a,hs4,rfl⟩)⟩;case inr=>
   have HD:Hid (FpO base g b off n cap t d (yDf 62 14 R s) (.tuple #[]) nv w (Pf c (a:Int)) w4):=⟨Chg.comp H3.2.2.1 Hc4.out (fun q hq z=>by
    rcases z with z|z
    ·exact .inl z
    ·rcases H3.2.2.2.1 q z with y|y
     ·exact .inr y
     ·omega),.inr ⟨c,a,.inr ⟨s1,HR1.out,HJ.1.stp _ (.e2 Hsn.out H3.2.2.2.2 hs4)⟩,rfl⟩⟩
   clear hs4 HC3;exact⟨rfl,HD.out⟩
  obtain⟨a4,m4,c4,rfl⟩:=hF4.form;have HR4:Hid (R s3 (.ok s4)):=hs4;have H4:Hid (Fp base g b off n cap t d s4 k4 ks4 p4 (.slice a4 m4 c4) w4∧FpS base b off n cap t w4∧Chg (fun q=>q=g∨nv.ownBlock=some q) w w4∧(∀q,(Value.slice a4 m4 c4).ownBlock=some q→nv.ownBlock=some q∨w.heap.size≤q)):=⟨hF4,H3.2.1.of H3.1 Hc4.out,Chg.comp H3.2.2.1 Hc4.out (fun q hq z=>by
    rcases z with z|z
    ·exact .inl z
    ·rcases H3.2.2.2.1 q z with y|y
     ·exact .inr y
     ·omega),fun q hq=>by
   rcases hn4 q hq with y|y
   ·exact H3.2.2.2.1 q y
   ·right;omega⟩
  have cN:=hF4.fs.cell (j:=9) rfl;have sz4:=H4.2.2.1.size;have hg4:=hF4.fs.lt.2;obtain⟨W5,hW5⟩:∃V:World,V=w4.alloc (Obj.cells #[.int .i64 14,.string ⟨#[]⟩,.bool false,.string ⟨#[]⟩,.int .u64 0,.int .u64 0,.int .i64 0] 65):=⟨_,rfl⟩;have hb5:Below w4.heap.size w4 W5:=by rw[hW5];exact qB
  have HW5:Hid (Fp base g b off n cap t d s4 k4 ks4 p4 (.slice a4 m4 c4) W5∧yBj W5 w4.heap.size 0 [yAc 14]∧Below w4.heap.size w4 W5):=by
   refine⟨hF4.below hb5,?_,hb5⟩;intro i e he;cases i with
   |zero=>
    simp at he;subst he;rw[hW5];refine⟨?_,?_,?_,?_,?_,?_,?_⟩<;>simp[yAc,noS]
   |succ i=>simp at he
  have sz5:=hb5.size;have hbs:base≤W5.heap.size:=by have:=H4.2.1.sz;omega
  clear hs4 hF4 hn4 HC3 hb5;go_wp2_with (at_builtin;(try rw[←hW5]);refine yEh _ rfl _ _ rfl base (.slice a4 m4 c4) w4.heap.size 0 1 1 s4.out (yAc 14) rfl rfl rfl HW5.1.nds HW5.2.1 ?hl ?hb ?_);case hl=>have:=HW5.1.ol;omega
  case hb=>exact hbs
  intro g6 c6 w6 hO6 hgr hat;have hgr2:W5.grownBy w6 (Value.slice a4 m4 c4).ownBlock:=by first|exact hgr|(rw[hW5];exact hgr)
  have hat2:(Value.slice a4 m4 c4).ownBlock=some g6∨g6=W5.heap.size:=by first|exact hat|(rw[hW5];exact hat)|(rw[hW5];simpa using hat)
  have H6:Hid (FsAt w6 base g b off n cap p4 (fpL k4 s4.made (20-d) (.slice a4 m4 c4))∧w6.ownsRow base 65 7 (.slice (some ⟨g6,0,none⟩) (s4.out.length+1) c6) (s4.out++ [yAc 14]).length (yBn (s4.out++ [yAc 14]))∧Chg (fun q=>q=g∨nv.ownBlock=some q) w w6∧¬g6=g∧(nv.ownBlock=some g6∨w.heap.size≤g6)∧FpS base b off n cap t w6):=by
   have hc6:Chg (fun q=>(Value.slice a4 m4 c4).ownBlock=some q) W5 w6:=Chg.of_grown hgr2 (fun q hq=>hq);have hF5:=HW5.1;have hcw5:Chg (fun q=>q=g∨nv.ownBlock=some q) w W5:=Chg.comp H4.2.2.1 (Chg.of_below HW5.2.2 (S:=fun _=>False)) (fun q _ z=>z.elim);refine⟨yA.chg hF5.fs hc6 (fun z=>hF5.ap _ z rfl),by rw[List.length_append];exact hO6,Chg.comp hcw5 hc6 (fun q hq z=>?_),?_,?_,?_⟩
   ·rcases H4.2.2.2 q z with y|y
    ·exact .inr y
    ·omega
   ·rcases hat2 with z|z
    ·exact fun q=>hF5.ap _ z q
    ·have:=hF5.fs.lt.2;omega
   ·rcases hat2 with z|z
    ·exact H4.2.2.2 _ z
    ·right;omega
   ·refine(H4.2.1.up (HW5.2.2.mono H4.2.1.sz)).chg hc6 (fun q z=>(hF5.nlt q z).1)
  clear hO6 hgr hgr2 hat hat2 hW5 cN;have cN:=H6.1.cell (j:=9) rfl;have fN:=H6.1.frozen 9;have HR:Hid (∃(s2':Ps) (k2':Tk) (ks2':List Tk) (p2':Nat) (nv2':Value),s2'.ks.length≤s4.ks.length∧JnJ base g b off n cap t d 62 14 R nv w s1 s2' k2' ks2' p2' nv2' (w6.setCell ⟨g,9,none⟩ (.slice (some ⟨g6,0,none⟩) (s4.out.length+1) c6))):=by
   have hc9:Chg (fun q=>q=g) w6 (w6.setCell ⟨g,9,none⟩ (.slice (some ⟨g6,0,none⟩) (s4.out.length+1) c6)):=Chg.of_set _ _ _ _ rfl;have h6:=H6.out;have h4:=H4.1;have hmk:=yDg H3.2.2.2.2;refine⟨s4.add (yAc 14),k4,ks4,p4,.slice (some ⟨g6,0,none⟩) (s4.out.length+1) c6,Nat.le_refl _,⟨h4.eq,yA.set h6.1 9 _,h4.pn,h4.lx,h4.nb,h4.tk,h4.md,h4.dd,yA2 h6.2.1 hc9 (fun q hq z=>?_),fun q hq=>?_,?_⟩,h6.2.2.2.2.2.chg hc9 (fun q z=>?_),Chg.comp h6.2.2.1 hc9 (fun q _ z=>.inl z),fun q hq=>?_,fun r hr=>HJ.1.stp r (.more Hsn.out H3.2.2.2.2 HR4.out hr)⟩
   ·simp[Value.ownBlock]at hq;exact h6.2.2.2.1 (hq.trans z)
   ·simp[Value.ownBlock]at hq;rw[←hq];exact h6.2.2.2.1
   ·show(s4.out++ [yAc 14]).length+s4.ks.length≤200000;rw[List.length_append,List.length_singleton];have h1:=yDg H3.2.2.2.2;have h2:=(H0.2.1 s3 s4 HR4.out).2;have h5:=h1.2 (by rw[HEq.out];simp);have h7:=HJ.1.fp.ol;rw[h1.1.2]at h2;omega
   ·rw[z];exact h4.fs.lt.1
   ·simp[Value.ownBlock]at hq;rw[←hq];exact h6.2.2.2.2.1
  exact zzQ51
theorem yM8 (HO:OprC base g b off n cap t d 64 R) (hM:MonR R) (hS:FpS base b off n cap t w) (h:Fp base g b off n cap t d s k ks p nv w):
  Calls Tryz.prog 63 #[.pointer (some ⟨g,0,none⟩),.int .u8 124,.int .i64 15,.func (Fn.func 64) #[.pointer (some ⟨g,0,none⟩)] #[]] w (FpO base g b off n cap t d (yDf 124 15 R s) (.tuple #[]) nv w):=by
 have H0:Hid (OprC base g b off n cap t d 64 R∧MonR R∧FpS base b off n cap t w∧Fp base g b off n cap t d s k ks p nv w):=⟨HO,hM,hS,h⟩;have hgl:=h.fs.lt;have HC0:Hid (Calls Tryz.prog 64 #[.pointer (some ⟨g,0,none⟩)] w (FpO base g b off n cap t d (R s) (.tuple #[]) nv w)):=HO w s k ks p nv hS h;clear HO hM hS h;go_enter Tryz.func63,Tryz.ntmps63;go_wp2_with fail;refine HC0.mono ?_;rintro e w1 ⟨Hc1,(⟨s1,hs1,rfl,k1,ks1,p1,nv1,hF1,hn1⟩|⟨c,a,hs1,rfl⟩)⟩;case inr=>
  have HD:Hid (FpO base g b off n cap t d (yDf 124 15 R s) (.tuple #[]) nv w (Pf c (a:Int)) w1):=⟨Hc1.out,.inr ⟨c,a,.inl ⟨_,hs1,rfl⟩,rfl⟩⟩;clear hs1 HC0;exact⟨rfl,HD.out⟩
 have HR1:Hid (R s (.ok s1)):=hs1;have HJ1:Hid (JnJ base g b off n cap t d 124 15 R nv w s1 s1 k1 ks1 p1 nv1 w1):=⟨hF1,H0.2.2.1.of H0.2.2.2 Hc1.out,Hc1.out,hn1,fun r q=>q⟩;have hsz1:=Hc1.size;clear hs1 hF1 hn1 HC0;go_wp2_with fail;go_loopg[] (s1.ks.length) (fun gk wr=>∃(s2:Ps) (k2:Tk) (ks2:List Tk) (p2:Nat) (nv2:Value),s2.ks.length≤gk∧JnJ base g b off n cap t d 124 15 R nv w s1 s2 k2 ks2 p2 nv2 wr);case atStart=>exact⟨s1,k1,ks1,p1,nv1,Nat.le_refl _,HJ1.out⟩
 case round=>
  clear HJ1;obtain⟨s2,k2,ks2,p2,nv2,hlen,hJ⟩:=hrel;have HJ:Hid (JnJ base g b off n cap t d 124 15 R nv w s1 s2 k2 ks2 p2 nv2 wr∧s2.ks.length≤gk):=⟨hJ,hlen⟩;have cK:=hJ.fp.fs.cell (j:=2) rfl;have hsg:=yJo (b:=124) hJ.fp.kinds (by decide);have hsg':(((ftB k2.k).toNat:Int)==124)=k2.k.isSign 124:=hsg;have HEq:Hid (s2.ks=k2::ks2):=hJ.fp.eq;have szr:=hJ.chg.size;have hnl:=hJ.fp.nlt;obtain⟨kb,hkb⟩:=qE (((ftB k2.k).toNat:Int):Int);rw[←hkb]at hsg' cK;clear hJ hlen hsg hkb;cases hsn:k2.k.isSign 124
  case false=>rw[hsn]at hsg';have HR:Hid (FpO base g b off n cap t d (yDf 124 15 R s) (.tuple #[]) nv w (.returned (.tuple #[])) wr):=⟨HJ.1.chg,.inl ⟨s2,.inr ⟨s1,HR1.out,HJ.1.stp _ (.stop (by rw[HEq.out];exact hsn))⟩,rfl,k2,ks2,p2,nv2,HJ.1.fp,HJ.1.loc⟩⟩;clear hsn hnl;go_wp2_with fail;go_end0;exact HR.out
  case true=>
  rw[hsn]at hsg';have Hsn:Hid ((hdK s2.ks).isSign 124=true):=by show _=_;rw[HEq.out];exact hsn
  have HMk:Hid (Calls Tryz.prog 95 #[.pointer (some ⟨g,0,none⟩)] wr (FpO base g b off n cap t d (fun r=>r=yAy s2) (.agg (ftV k2).toArray) nv2 wr)):=yEc HJ.1.fs HJ.1.fp (yGa hsn);have HL:Hid (∀q,nv2.ownBlock=some q→base≤q∧q<wr.heap.size):=hnl;clear hsn hnl;go_wp2_with fail;refine HMk.mono ?_;rintro e w3 ⟨Hc3,(⟨s3,hs3,rfl,k3,ks3,p3,nv3,hF3,hn3⟩|⟨c,a,hs3,rfl⟩)⟩;case inr=>
   have HD:Hid (FpO base g b off n cap t d (yDf 124 15 R s) (.tuple #[]) nv w (Pf c (a:Int)) w3):=⟨Chg.comp HJ.1.chg Hc3.out (fun q hq z=>by
    rcases z with z|z
    ·exact .inl z
    ·rcases HJ.1.loc q z with y|y
     ·exact .inr y
     ·omega),.inr ⟨c,a,.inr ⟨s1,HR1.out,HJ.1.stp _ (.e1 Hsn.out hs3.symm)⟩,rfl⟩⟩
   clear hs3 HMk;exact⟨rfl,HD.out⟩
  have hcw3:Chg (fun q=>q=g∨nv.ownBlock=some q) w w3:=Chg.comp HJ.1.chg Hc3.out (fun q hq z=>by
    rcases z with z|z
    ·exact .inl z
    ·rcases HJ.1.loc q z with y|y
     ·exact .inr y
     ·omega)
  have hloc3:∀q,nv3.ownBlock=some q→nv.ownBlock=some q∨w.heap.size≤q:=fun q hq=>by
   rcases hn3 q hq with y|y
   ·exact HJ.1.loc q y
   ·right;omega
  have H3:Hid (Fp base g b off n cap t d s3 k3 ks3 p3 nv3 w3∧FpS base b off n cap t w3∧Chg (fun q=>q=g∨nv.ownBlock=some q) w w3∧(∀q,nv3.ownBlock=some q→nv.ownBlock=some q∨w.heap.size≤q)∧yAy s2=.ok s3):=⟨hF3,HJ.1.fs.of HJ.1.fp Hc3.out,hcw3,hloc3,hs3.symm⟩;have HC3:Hid (Calls Tryz.prog 64 #[.pointer (some ⟨g,0,none⟩)] w3 (FpO base g b off n cap t d (R s3) (.tuple #[]) nv3 w3)):=H0.1 w3 s3 k3 ks3 p3 nv3 H3.2.1 hF3;have sz3:=hcw3.size;clear hs3 hF3 hn3 hcw3 hloc3 HMk cK;go_wp2_with fail;refine HC3.mono ?_;rintro e w4 ⟨Hc4,(⟨s4,hs4,rfl,k4,ks4,p4,nv4,hF4,hn4⟩|⟨c,a,hs4,rfl⟩)⟩;case inr=>
   have HD:Hid (FpO base g b off n cap t d (yDf 124 15 R s) (.tuple #[]) nv w (Pf c (a:Int)) w4):=⟨Chg.comp H3.2.2.1 Hc4.out (fun q hq z=>by
    rcases z with z|z
    ·exact .inl z
    ·rcases H3.2.2.2.1 q z with y|y
     ·exact .inr y
     ·omega),.inr ⟨c,a,.inr ⟨s1,HR1.out,HJ.1.stp _ (.e2 Hsn.out H3.2.2.2.2 hs4)⟩,rfl⟩⟩
   clear hs4 HC3;exact⟨rfl,HD.out⟩
  obtain⟨a4,m4,c4,rfl⟩:=hF4.form;have HR4:Hid (R s3 (.ok s4)):=hs4;have H4:Hid (Fp base g b off n cap t d s4 k4 ks4 p4 (.slice a4 m4 c4) w4∧FpS base b off n cap t w4∧Chg (fun q=>q=g∨nv.ownBlock=some q) w w4∧(∀q,(Value.slice a4 m4 c4).ownBlock=some q→nv.ownBlock=some q∨w.heap.size≤q)):=⟨hF4,H3.2.1.of H3.1 Hc4.out,Chg.comp H3.2.2.1 Hc4.out (fun q hq z=>by
    rcases z with z|z
    ·exact .inl z
    ·rcases H3.2.2.2.1 q z with y|y
     ·exact .inr y
     ·omega),fun q hq=>by
   rcases hn4 q hq with y|y
   ·exact H3.2.2.2.1 q y
   ·right;omega⟩
  have cN:=hF4.fs.cell (j:=9) rfl;have sz4:=H4.2.2.1.size;have hg4:=hF4.fs.lt.2;obtain⟨W5,hW5⟩:∃V:World,V=w4.alloc (Obj.cells #[.int .i64 15,.string ⟨#[]⟩,.bool false,.string ⟨#[]⟩,.int .u64 0,.int .u64 0,.int .i64 0] 65):=⟨_,rfl⟩;have hb5:Below w4.heap.size w4 W5:=by rw[hW5];exact qB
  have HW5:Hid (Fp base g b off n cap t d s4 k4 ks4 p4 (.slice a4 m4 c4) W5∧yBj W5 w4.heap.size 0 [yAc 15]∧Below w4.heap.size w4 W5):=by
   refine⟨hF4.below hb5,?_,hb5⟩;intro i e he;cases i with
   |zero=>
    simp at he;subst he;rw[hW5];refine⟨?_,?_,?_,?_,?_,?_,?_⟩<;>simp[yAc,noS]
   |succ i=>simp at he
  have sz5:=hb5.size;have hbs:base≤W5.heap.size:=by have:=H4.2.1.sz;omega
  clear hs4 hF4 hn4 HC3 hb5;go_wp2_with (at_builtin;(try rw[←hW5]);refine yEh _ rfl _ _ rfl base (.slice a4 m4 c4) w4.heap.size 0 1 1 s4.out (yAc 15) rfl rfl rfl HW5.1.nds HW5.2.1 ?hl ?hb ?_);case hl=>have:=HW5.1.ol;omega
  case hb=>exact hbs
  intro g6 c6 w6 hO6 hgr hat;have hgr2:W5.grownBy w6 (Value.slice a4 m4 c4).ownBlock:=by first|exact hgr|(rw[hW5];exact hgr)
  have hat2:(Value.slice a4 m4 c4).ownBlock=some g6∨g6=W5.heap.size:=by first|exact hat|(rw[hW5];exact hat)|(rw[hW5];simpa using hat)
  have H6:Hid (FsAt w6 base g b off n cap p4 (fpL k4 s4.made (20-d) (.slice a4 m4 c4))∧w6.ownsRow base 65 7 (.slice (some ⟨g6,0,none⟩) (s4.out.length+1) c6) (s4.out++ [yAc 15]).length (yBn (s4.out++ [yAc 15]))∧Chg (fun q=>q=g∨nv.ownBlock=some q) w w6∧¬g6=g∧(nv.ownBlock=some g6∨w.heap.size≤g6)∧FpS base b off n cap t w6):=by
   have hc6:Chg (fun q=>(Value.slice a4 m4 c4).ownBlock=some q) W5 w6:=Chg.of_grown hgr2 (fun q hq=>hq);have hF5:=HW5.1;have hcw5:Chg (fun q=>q=g∨nv.ownBlock=some q) w W5:=Chg.comp H4.2.2.1 (Chg.of_below HW5.2.2 (S:=fun _=>False)) (fun q _ z=>z.elim);refine⟨yA.chg hF5.fs hc6 (fun z=>hF5.ap _ z rfl),by rw[List.length_append];exact hO6,Chg.comp hcw5 hc6 (fun q hq z=>?_),?_,?_,?_⟩
   ·rcases H4.2.2.2 q z with y|y
    ·exact .inr y
    ·omega
   ·rcases hat2 with z|z
    ·exact fun q=>hF5.ap _ z q
    ·have:=hF5.fs.lt.2;omega
   ·rcases hat2 with z|z
    ·exact H4.2.2.2 _ z
    ·right;omega
   ·refine(H4.2.1.up (HW5.2.2.mono H4.2.1.sz)).chg hc6 (fun q z=>(hF5.nlt q z).1)
  clear hO6 hgr hgr2 hat hat2 hW5 cN;have cN:=H6.1.cell (j:=9) rfl;have fN:=H6.1.frozen 9;have HR:Hid (∃(s2':Ps) (k2':Tk) (ks2':List Tk) (p2':Nat) (nv2':Value),s2'.ks.length≤s4.ks.length∧JnJ base g b off n cap t d 124 15 R nv w s1 s2' k2' ks2' p2' nv2' (w6.setCell ⟨g,9,none⟩ (.slice (some ⟨g6,0,none⟩) (s4.out.length+1) c6))):=by
   have hc9:Chg (fun q=>q=g) w6 (w6.setCell ⟨g,9,none⟩ (.slice (some ⟨g6,0,none⟩) (s4.out.length+1) c6)):=Chg.of_set _ _ _ _ rfl;have h6:=H6.out;have h4:=H4.1;have hmk:=yDg H3.2.2.2.2;refine⟨s4.add (yAc 15),k4,ks4,p4,.slice (some ⟨g6,0,none⟩) (s4.out.length+1) c6,Nat.le_refl _,⟨h4.eq,yA.set h6.1 9 _,h4.pn,h4.lx,h4.nb,h4.tk,h4.md,h4.dd,yA2 h6.2.1 hc9 (fun q hq z=>?_),fun q hq=>?_,?_⟩,h6.2.2.2.2.2.chg hc9 (fun q z=>?_),Chg.comp h6.2.2.1 hc9 (fun q _ z=>.inl z),fun q hq=>?_,fun r hr=>HJ.1.stp r (.more Hsn.out H3.2.2.2.2 HR4.out hr)⟩
   ·simp[Value.ownBlock]at hq;exact h6.2.2.2.1 (hq.trans z)
   ·simp[Value.ownBlock]at hq;rw[←hq];exact h6.2.2.2.1
   ·show(s4.out++ [yAc 15]).length+s4.ks.length≤200000;rw[List.length_append,List.length_singleton];have h1:=yDg H3.2.2.2.2;have h2:=(H0.2.1 s3 s4 HR4.out).2;have h5:=h1.2 (by rw[HEq.out];simp);have h7:=HJ.1.fp.ol;rw[h1.1.2]at h2;omega
   ·rw[z];exact h4.fs.lt.1
   ·simp[Value.ownBlock]at hq;rw[←hq];exact h6.2.2.2.2.1
  exact zzQ51
def Mon2 (c:Nat) (A:Ps→PR Ps→Prop):Prop:=∀s s1,A s (.ok s1)→s1.ks.length≤s.ks.length∧s1.out.length+s1.ks.length≤s.out.length+s.ks.length+c
variable {A:Ps→PR Ps→Prop}
theorem yVe (h:MonR A):Mon2 0 A:=fun s s1 q=>by have:=h s s1 q;exact⟨this.1,by omega⟩
theorem yC7 {B:Ps→PR Ps→Prop} {e:Nat} (hA:Mon2 c A) (hB:Mon2 e B):Mon2 (c+e) (yBp A B):=by
 intro s s1 h;rcases h with⟨_,_,q⟩|⟨s2,h1,h2⟩
 ·cases q
 ·have a:=hA s s2 h1;have b:=hB s2 s1 h2;exact⟨by omega,by omega⟩
theorem to_ok {r:PR (List Tk)} (h:s.to r=.ok s1):∃ks,r=.ok ks∧s1={s with ks:=ks}:=by
 cases r with
 |error e=>cases h
 |ok ks=>cases h;exact⟨ks,rfl,rfl⟩
theorem yJr {b:UInt8} (h:yAs b ks=.ok ks'):ks'.length≤ks.length:=by
 unfold yAs at h;split at h
 ·exact(yEi h).1
 ·cases h
theorem yE2 (b:UInt8):Mon2 0 (fnR fun s=>s.to (yAs b s.ks)):=by intro s s1 h;obtain⟨ks,h1,rfl⟩:=to_ok h.symm;have:=yJr h1;exact⟨this,by show s.out.length+ks.length≤_;omega⟩
theorem yK1 (d:Nat):Mon2 0 (fnR (yAz d)):=by
 intro s s1 h;have h':Except.ok s1=yAz d s:=h;unfold yAz at h';split at h'
 ·split at h'
  ·cases h'
  ·obtain⟨ks,h1,rfl⟩:=to_ok h'.symm;have:=(yEi h1).1;exact⟨this,by show s.out.length+ks.length≤_;omega⟩
 ·cases h'
variable {k:Int} {st:Bool} {e:Nd}
theorem yX8 {a:TkK} (h:upF k st a ks=.ok (ks',e)):ks'.length≤ks.length:=by
 unfold upF at h;split at h
 ·exact yXw
 ·cases h;exact Nat.le_refl _
theorem yNp {a:TkK} (h:yFj k st a ks=.ok (ks',e)):ks'.length≤ks.length:=by
 unfold yFj at h;cases hq:yAs 46 ks with
 |error e=>rw[hq]at h;cases h
 |ok k2=>rw[hq]at h;exact Nat.le_trans (yX8 h) (yJr hq)
theorem yKx (h:yB k st ks=.ok (ks',e)):ks'.length≤ks.length:=by
 unfold yB at h;split at h
 ·cases hq:yA9 ks with
  |error e=>rw[hq]at h;cases h
  |ok k2=>rw[hq]at h;exact Nat.le_trans (yNp h) (yEi hq).1
 ·exact yNp h
theorem yTx (h:yDa k ks=.ok (ks',e)):ks'.length≤ks.length:=by
 unfold yDa at h;split at h
 ·cases h;exact Nat.le_refl _
 split at h
 ·split at h
  ·exact yXw
  ·cases h
 split at h
 ·exact yKx h
 split at h
 ·exact yKx h
 split at h
 ·exact yXw
 ·cases h
theorem yVf (k:Int):Mon2 1 (fnR (argF k)):=by
 intro s s1 h;have h':Except.ok s1=argF k s:=h;unfold argF at h';cases hq:yDa k s.ks with
 |error e=>rw[hq]at h';cases h'
 |ok q=>
  obtain⟨ks,nd⟩:=q;rw[hq]at h';cases h'
  have:=yTx hq;exact⟨this,by show(s.out++ [nd]).length+ks.length≤_;rw[List.length_append,List.length_singleton];omega⟩
theorem yMz (hA:Mon2 1 A) (hne:s.ks≠ []) (h:yBp (fnR yAy) A s (.ok s1)):s1.ks.length≤s.ks.length∧s1.out.length+s1.ks.length≤s.out.length+s.ks.length:=by
 rcases h with⟨_,_,q⟩|⟨s2,h1,h2⟩
 ·cases q
 ·have a:=yDg (Eq.symm h1);have b:=hA s2 s1 h2;have a2:=a.2 hne;have a3:=congrArg List.length a.1.2;exact⟨by omega,by omega⟩
theorem hd_ne (h:hdK ks=.word k):ks≠ []:=fun q=>by rw[q]at h;cases h
theorem yE1 {F:Ps→PR Ps→Prop} (hF:MonR F) (d:Nat):MonR (yDb F d):=by
 have f2:=yVe hF;intro s s1 h;rcases h with⟨_,h⟩|⟨hw,h⟩|⟨k,hw,_,h⟩|⟨_,_,q⟩
 ·have:=yC7 (yK1 d) (yC7 f2 (yE2 41)) s s1 h;exact⟨this.1,by omega⟩
 ·refine yMz (A:=yBp (yDc F d) (fnR fun s=>.ok (s.add (yAc 16)))) ?_ (hd_ne hw) h;have hb:Mon2 0 (yDc F d):=by have:=yC7 (yK1 d) (yC7 f2 (yC7 (yE2 44) (yC7 f2 (yC7 (yE2 44) (yC7 f2 (yE2 41))))));exact this
  have ha:Mon2 1 (fnR fun s=>.ok (s.add (yAc 16))):=by
   intro s s1 h;have h':Except.ok s1=Except.ok (s.add (yAc 16)):=h;cases h'
   exact⟨Nat.le_refl _,by show(s.out++ [yAc 16]).length+s.ks.length≤_;rw[List.length_append,List.length_singleton];omega⟩
  have:=yC7 hb ha;exact this
 ·exact yMz (yVf k) (hd_ne hw) h
 ·cases q
theorem yVd {sg:UInt8} {kd:Int} (hR:MonR R) {r:PR Ps} (h:yHz sg kd R s r):∀s1,r=.ok s1→s1.ks.length≤s.ks.length∧s1.out.length+s1.ks.length≤s.out.length+s.ks.length:=by
 induction h with
 |stop h=>intro s1 q;cases q;exact⟨Nat.le_refl _,Nat.le_refl _⟩
 |e1 _ _=>intro s1 q;cases q
 |e2 _ _ _=>intro s1 q;cases q
 | @more s s1 s2 r hs h1 h2 h3 ih=>
   intro s9 q;have a:=yDg h1;have b:=hR s1 s2 h2;have c:=ih s9 q;have hne:s.ks≠ []:=fun z=>by rw[z]at hs;cases hs
   have a2:=a.2 hne;have a3:=congrArg List.length a.1.2;have c1:(s2.add (yAc kd)).ks.length=s2.ks.length:=rfl;have c2:(s2.add (yAc kd)).out.length=s2.out.length+1:=by show(s2.out++ [yAc kd]).length=_;simp
   exact⟨by omega,by omega⟩
theorem yGe {sg:UInt8} {kd:Int} (hR:MonR R):MonR (yDf sg kd R):=by
 intro s s1 h;rcases h with⟨_,_,q⟩|⟨s2,h1,h2⟩
 ·cases q
 ·have a:=hR s s2 h1;have b:=yVd hR h2 s1 rfl;exact⟨by omega,by omega⟩
theorem yLn:∀d,MonR (FilR d)
 |0=>yGe (yGe (yE1 (fun _ _ q=>q.elim) 0))
 |d+1=>yGe (yGe (yE1 (yLn d) (d+1)))
theorem FpO.seq {d2:Nat} {A A2:PR Ps→Prop} {V:Value} {nv1:Value} {w1 w2:World} {e:Ending} (hc1:Chg (fun q=>q=g∨nv.ownBlock=some q) w w1) (hl1:∀q,nv1.ownBlock=some q→nv.ownBlock=some q∨w.heap.size≤q) (h2:FpO base g b off n cap t d2 A2 V nv1 w1 e w2) (hA:∀r,A2 r→A r):FpO base g b off n cap t d2 A V nv w e w2:=by
 obtain⟨hc2,h2⟩:=h2;have hs:=hc1.size;refine⟨Chg.comp hc1 hc2.out (fun q hq z=>?_),?_⟩
 ·rcases z with z|z
  ·exact .inl z
  ·rcases hl1 q z with y|y
   ·exact .inr y
   ·omega
 ·rcases h2 with⟨s1,ha,rfl,k,ks,p,nv',hF,hl⟩|⟨c,a,ha,rfl⟩
  ·refine .inl ⟨s1,hA _ ha,rfl,k,ks,p,nv',hF,fun q hq=>?_⟩;rcases hl q hq with y|y
   ·exact hl1 q y
   ·right;omega
  ·exact .inr ⟨c,a,hA _ ha,rfl⟩
theorem yPv (HO:OprC base g b off n cap t d 96 R) (hM:MonR R):OprC base g b off n cap t d 64 (yDf 62 14 R):=by
 intro w s k ks p nv hS h;have HJ:Hid (Calls Tryz.prog 63 #[.pointer (some ⟨g,0,none⟩),.int .u8 62,.int .i64 14,.func (Fn.func 96) #[.pointer (some ⟨g,0,none⟩)] #[]] w (FpO base g b off n cap t d (yDf 62 14 R s) (.tuple #[]) nv w)):=yOg HO hM hS h;clear hS h HO hM;go_enter Tryz.func64,Tryz.ntmps64;go_wp2_with fail;refine HJ.mono ?_;rintro e w1 ⟨Hc,(⟨s1,hs1,rfl,hQ⟩|⟨c,a,hs1,rfl⟩)⟩
 ·have HR:Hid (FpO base g b off n cap t d (yDf 62 14 R s) (.tuple #[]) nv w (.returned (.tuple #[])) w1):=⟨Hc,.inl ⟨s1,hs1,rfl,hQ⟩⟩;clear hs1 hQ HJ;go_wp2_with fail;go_end0;exact HR.out
 ·have HD:Hid (FpO base g b off n cap t d (yDf 62 14 R s) (.tuple #[]) nv w (Pf c (a:Int)) w1):=⟨Hc,.inr ⟨c,a,hs1,rfl⟩⟩;clear hs1 HJ;exact⟨rfl,HD.out⟩
theorem yNg (HO:OprC base g b off n cap t d 64 R) (hM:MonR R):OprC base g b off n cap t d 26 (yDf 124 15 R):=by
 intro w s k ks p nv hS h;have HJ:Hid (Calls Tryz.prog 63 #[.pointer (some ⟨g,0,none⟩),.int .u8 124,.int .i64 15,.func (Fn.func 64) #[.pointer (some ⟨g,0,none⟩)] #[]] w (FpO base g b off n cap t d (yDf 124 15 R s) (.tuple #[]) nv w)):=yM8 HO hM hS h;clear hS h HO hM;go_enter Tryz.func26,Tryz.ntmps26;go_wp2_with fail;refine HJ.mono ?_;rintro e w1 ⟨Hc,(⟨s1,hs1,rfl,hQ⟩|⟨c,a,hs1,rfl⟩)⟩
 ·have HR:Hid (FpO base g b off n cap t d (yDf 124 15 R s) (.tuple #[]) nv w (.returned (.tuple #[])) w1):=⟨Hc,.inl ⟨s1,hs1,rfl,hQ⟩⟩;clear hs1 hQ HJ;go_wp2_with fail;go_end0;exact HR.out
 ·have HD:Hid (FpO base g b off n cap t d (yDf 124 15 R s) (.tuple #[]) nv w (Pf c (a:Int)) w1):=⟨Hc,.inr ⟨c,a,hs1,rfl⟩⟩;clear hs1 HJ;exact⟨rfl,HD.out⟩
theorem yMc {k:Tk} {F:Ps→PR Ps→Prop} (HF:0<d→OprC base g b off n cap t (d-1) 26 F) (hS:FpS base b off n cap t w) (h:Fp base g b off n cap t d s k ks p nv w):
  Calls Tryz.prog 128 #[.pointer (some ⟨g,0,none⟩)] w (FpO base g b off n cap t d (yDc F d s) (.tuple #[]) nv w):=by
 have hdd:=h.dd;have H0:Hid (FpS base b off n cap t w∧Fp base g b off n cap t d s k ks p nv w):=⟨hS,h⟩;have HFl:Hid (0<d→OprC base g b off n cap t (d-1) 26 F):=HF;have HC0:Hid (Calls Tryz.prog 115 #[.pointer (some ⟨g,0,none⟩)] w (FpO base g b off n cap t (d-1) (fun r=>r=yAz d s) (.tuple #[]) nv w)):=yK9 hS h;clear HF hS h;go_enter Tryz.func128,Tryz.ntmps128;go_wp2_with fail;refine HC0.mono ?_;rintro e w1 ⟨Hc1,(⟨s1,hs1,rfl,k1,ks1,p1,nv1,hF1,hn1⟩|⟨c,a,hs1,rfl⟩)⟩;case inr=>
  have HD:Hid (FpO base g b off n cap t d (yDc F d s) (.tuple #[]) nv w (Pf c (a:Int)) w1):=⟨Hc1.out,.inr ⟨c,a,.inl ⟨_,hs1,rfl⟩,rfl⟩⟩;clear hs1 HC0;exact⟨rfl,HD.out⟩
 have hd0:0<d:=by
  rcases Nat.eq_zero_or_pos d with q|q
  ·exfalso;have h9:Except.ok s1=yAz d s:=hs1;rw[q]at h9;unfold yAz at h9;split at h9<;>first|cases h9|(simp at h9)
  ·exact q
 have HQ1:Hid (Fp base g b off n cap t (d-1) s1 k1 ks1 p1 nv1 w1∧FpS base b off n cap t w1∧Chg (fun q=>q=g∨nv.ownBlock=some q) w w1∧(∀q,nv1.ownBlock=some q→nv.ownBlock=some q∨w.heap.size≤q)∧(∀r,(yBp F (yBp (fnR yC) (yBp F (yBp (fnR yC) (yBp F (fnR yB5)))))) s1 r→yDc F d s r)):=⟨hF1,H0.1.of H0.2 Hc1.out,Hc1.out,hn1,fun r hr=>.inr ⟨s1,hs1,hr⟩⟩;have sz1:=HQ1.2.2.1.size;have HC1:Hid (Calls Tryz.prog 26 #[.pointer (some ⟨g,0,none⟩)] w1 (FpO base g b off n cap t (d-1) (F s1) (.tuple #[]) nv1 w1)):=HFl.out hd0 w1 s1 k1 ks1 p1 nv1 HQ1.2.1 hF1;clear hs1 hF1 hn1 HC0;go_wp2_with fail;refine HC1.mono ?_;rintro e w2 ⟨Hc2,(⟨s2,hs2,rfl,k2,ks2,p2,nv2,hF2,hn2⟩|⟨c,a,hs2,rfl⟩)⟩;case inr=>
  have HD:Hid (FpO base g b off n cap t d (yDc F d s) (.tuple #[]) nv w (Pf c (a:Int)) w2):=⟨Chg.comp HQ1.2.2.1 Hc2.out (fun q hq z=>by
   rcases z with z|z
   ·exact .inl z
   ·rcases HQ1.2.2.2.1 q z with y|y
    ·exact .inr y
    ·omega),.inr ⟨c,a,HQ1.2.2.2.2 _ (.inl ⟨_,hs2,rfl⟩),rfl⟩⟩
  clear hs2 HC1;exact⟨rfl,HD.out⟩
 have HQ2:Hid (Fp base g b off n cap t (d-1) s2 k2 ks2 p2 nv2 w2∧FpS base b off n cap t w2∧Chg (fun q=>q=g∨nv.ownBlock=some q) w w2∧(∀q,nv2.ownBlock=some q→nv.ownBlock=some q∨w.heap.size≤q)∧(∀r,(yBp (fnR yC) (yBp F (yBp (fnR yC) (yBp F (fnR yB5))))) s2 r→yDc F d s r)):=⟨hF2,HQ1.2.1.of HQ1.1 Hc2.out,(Chg.comp HQ1.2.2.1 Hc2.out (fun q hq z=>by
   rcases z with z|z
   ·exact .inl z
   ·rcases HQ1.2.2.2.1 q z with y|y
    ·exact .inr y
    ·omega)),(fun q hq=>by
   rcases hn2 q hq with y|y
   ·exact HQ1.2.2.2.1 q y
   ·right;omega),fun r hr=>HQ1.2.2.2.2 r (.inr ⟨s2,hs2,hr⟩)⟩
 have sz2:=HQ2.2.2.1.size;have HC2:Hid (Calls Tryz.prog 127 #[.pointer (some ⟨g,0,none⟩),.int .u8 44] w2 (FpO base g b off n cap t (d-1) (fun r=>r=s2.to (yAs 44 s2.ks)) (.agg (ftV k2).toArray) nv2 w2)):=yD2 HQ2.2.1 hF2 (bb:=44) (.inr (.inr (.inl rfl)));clear hs2 hF2 hn2 HC1;go_wp2_with fail;refine HC2.mono ?_;rintro e w3 ⟨Hc3,(⟨s3,hs3,rfl,k3,ks3,p3,nv3,hF3,hn3⟩|⟨c,a,hs3,rfl⟩)⟩;case inr=>
  have HD:Hid (FpO base g b off n cap t d (yDc F d s) (.tuple #[]) nv w (Pf c (a:Int)) w3):=⟨Chg.comp HQ2.2.2.1 Hc3.out (fun q hq z=>by
   rcases z with z|z
   ·exact .inl z
   ·rcases HQ2.2.2.2.1 q z with y|y
    ·exact .inr y
    ·omega),.inr ⟨c,a,HQ2.2.2.2.2 _ (.inl ⟨_,hs3,rfl⟩),rfl⟩⟩
  clear hs3 HC2;exact⟨rfl,HD.out⟩
 have HQ3:Hid (Fp base g b off n cap t (d-1) s3 k3 ks3 p3 nv3 w3∧FpS base b off n cap t w3∧Chg (fun q=>q=g∨nv.ownBlock=some q) w w3∧(∀q,nv3.ownBlock=some q→nv.ownBlock=some q∨w.heap.size≤q)∧(∀r,(yBp F (yBp (fnR yC) (yBp F (fnR yB5)))) s3 r→yDc F d s r)):=⟨hF3,HQ2.2.1.of HQ2.1 Hc3.out,(Chg.comp HQ2.2.2.1 Hc3.out (fun q hq z=>by
   rcases z with z|z
   ·exact .inl z
   ·rcases HQ2.2.2.2.1 q z with y|y
    ·exact .inr y
    ·omega)),(fun q hq=>by
   rcases hn3 q hq with y|y
   ·exact HQ2.2.2.2.1 q y
   ·right;omega),fun r hr=>HQ2.2.2.2.2 r (.inr ⟨s3,hs3,hr⟩)⟩
 have sz3:=HQ3.2.2.1.size;have HC3:Hid (Calls Tryz.prog 26 #[.pointer (some ⟨g,0,none⟩)] w3 (FpO base g b off n cap t (d-1) (F s3) (.tuple #[]) nv3 w3)):=HFl.out hd0 w3 s3 k3 ks3 p3 nv3 HQ3.2.1 hF3;clear hs3 hF3 hn3 HC2;go_wp2_with fail;refine HC3.mono ?_;rintro e w4 ⟨Hc4,(⟨s4,hs4,rfl,k4,ks4,p4,nv4,hF4,hn4⟩|⟨c,a,hs4,rfl⟩)⟩;case inr=>
  have HD:Hid (FpO base g b off n cap t d (yDc F d s) (.tuple #[]) nv w (Pf c (a:Int)) w4):=⟨Chg.comp HQ3.2.2.1 Hc4.out (fun q hq z=>by
   rcases z with z|z
   ·exact .inl z
   ·rcases HQ3.2.2.2.1 q z with y|y
    ·exact .inr y
    ·omega),.inr ⟨c,a,HQ3.2.2.2.2 _ (.inl ⟨_,hs4,rfl⟩),rfl⟩⟩
  clear hs4 HC3;exact⟨rfl,HD.out⟩
 have HQ4:Hid (Fp base g b off n cap t (d-1) s4 k4 ks4 p4 nv4 w4∧FpS base b off n cap t w4∧Chg (fun q=>q=g∨nv.ownBlock=some q) w w4∧(∀q,nv4.ownBlock=some q→nv.ownBlock=some q∨w.heap.size≤q)∧(∀r,(yBp (fnR yC) (yBp F (fnR yB5))) s4 r→yDc F d s r)):=⟨hF4,HQ3.2.1.of HQ3.1 Hc4.out,(Chg.comp HQ3.2.2.1 Hc4.out (fun q hq z=>by
   rcases z with z|z
   ·exact .inl z
   ·rcases HQ3.2.2.2.1 q z with y|y
    ·exact .inr y
    ·omega)),(fun q hq=>by
   rcases hn4 q hq with y|y
   ·exact HQ3.2.2.2.1 q y
   ·right;omega),fun r hr=>HQ3.2.2.2.2 r (.inr ⟨s4,hs4,hr⟩)⟩
 have sz4:=HQ4.2.2.1.size;have HC4:Hid (Calls Tryz.prog 127 #[.pointer (some ⟨g,0,none⟩),.int .u8 44] w4 (FpO base g b off n cap t (d-1) (fun r=>r=s4.to (yAs 44 s4.ks)) (.agg (ftV k4).toArray) nv4 w4)):=yD2 HQ4.2.1 hF4 (bb:=44) (.inr (.inr (.inl rfl)));clear hs4 hF4 hn4 HC3;go_wp2_with fail;refine HC4.mono ?_;rintro e w5 ⟨Hc5,(⟨s5,hs5,rfl,k5,ks5,p5,nv5,hF5,hn5⟩|⟨c,a,hs5,rfl⟩)⟩;case inr=>
  have HD:Hid (FpO base g b off n cap t d (yDc F d s) (.tuple #[]) nv w (Pf c (a:Int)) w5):=⟨Chg.comp HQ4.2.2.1 Hc5.out (fun q hq z=>by
   rcases z with z|z
   ·exact .inl z
   ·rcases HQ4.2.2.2.1 q z with y|y
    ·exact .inr y
    ·omega),.inr ⟨c,a,HQ4.2.2.2.2 _ (.inl ⟨_,hs5,rfl⟩),rfl⟩⟩
  clear hs5 HC4;exact⟨rfl,HD.out⟩
 have HQ5:Hid (Fp base g b off n cap t (d-1) s5 k5 ks5 p5 nv5 w5∧FpS base b off n cap t w5∧Chg (fun q=>q=g∨nv.ownBlock=some q) w w5∧(∀q,nv5.ownBlock=some q→nv.ownBlock=some q∨w.heap.size≤q)∧(∀r,(yBp F (fnR yB5)) s5 r→yDc F d s r)):=⟨hF5,HQ4.2.1.of HQ4.1 Hc5.out,(Chg.comp HQ4.2.2.1 Hc5.out (fun q hq z=>by
   rcases z with z|z
   ·exact .inl z
   ·rcases HQ4.2.2.2.1 q z with y|y
    ·exact .inr y
    ·omega)),(fun q hq=>by
   rcases hn5 q hq with y|y
   ·exact HQ4.2.2.2.1 q y
   ·right;omega),fun r hr=>HQ4.2.2.2.2 r (.inr ⟨s5,hs5,hr⟩)⟩
 have sz5:=HQ5.2.2.1.size;have HC5:Hid (Calls Tryz.prog 26 #[.pointer (some ⟨g,0,none⟩)] w5 (FpO base g b off n cap t (d-1) (F s5) (.tuple #[]) nv5 w5)):=HFl.out hd0 w5 s5 k5 ks5 p5 nv5 HQ5.2.1 hF5;clear hs5 hF5 hn5 HC4;go_wp2_with fail;refine HC5.mono ?_;rintro e w6 ⟨Hc6,(⟨s6,hs6,rfl,k6,ks6,p6,nv6,hF6,hn6⟩|⟨c,a,hs6,rfl⟩)⟩;case inr=>
  have HD:Hid (FpO base g b off n cap t d (yDc F d s) (.tuple #[]) nv w (Pf c (a:Int)) w6):=⟨Chg.comp HQ5.2.2.1 Hc6.out (fun q hq z=>by
   rcases z with z|z
   ·exact .inl z
   ·rcases HQ5.2.2.2.1 q z with y|y
    ·exact .inr y
    ·omega),.inr ⟨c,a,HQ5.2.2.2.2 _ (.inl ⟨_,hs6,rfl⟩),rfl⟩⟩
  clear hs6 HC5;exact⟨rfl,HD.out⟩
 have HQ6:Hid (Fp base g b off n cap t (d-1) s6 k6 ks6 p6 nv6 w6∧FpS base b off n cap t w6∧Chg (fun q=>q=g∨nv.ownBlock=some q) w w6∧(∀q,nv6.ownBlock=some q→nv.ownBlock=some q∨w.heap.size≤q)∧(∀r,(fnR yB5) s6 r→yDc F d s r)):=⟨hF6,HQ5.2.1.of HQ5.1 Hc6.out,(Chg.comp HQ5.2.2.1 Hc6.out (fun q hq z=>by
   rcases z with z|z
   ·exact .inl z
   ·rcases HQ5.2.2.2.1 q z with y|y
    ·exact .inr y
    ·omega)),(fun q hq=>by
   rcases hn6 q hq with y|y
   ·exact HQ5.2.2.2.1 q y
   ·right;omega),fun r hr=>HQ5.2.2.2.2 r (.inr ⟨s6,hs6,hr⟩)⟩
 have sz6:=HQ6.2.2.1.size;have HC6:Hid (Calls Tryz.prog 116 #[.pointer (some ⟨g,0,none⟩)] w6 (FpO base g b off n cap t (d-1+1) (fun r=>r=yB5 s6) (.tuple #[]) nv6 w6)):=yK4 HQ6.2.1 hF6 (by omega);clear hs6 hF6 hn6 HC5;go_wp2_with fail;refine HC6.mono ?_;rintro e w7 ⟨Hc7,(⟨s7,hs7,rfl,k7,ks7,p7,nv7,hF7,hn7⟩|⟨c,a,hs7,rfl⟩)⟩;case inr=>
  have HD:Hid (FpO base g b off n cap t d (yDc F d s) (.tuple #[]) nv w (Pf c (a:Int)) w7):=⟨Chg.comp HQ6.2.2.1 Hc7.out (fun q hq z=>by
   rcases z with z|z
   ·exact .inl z
   ·rcases HQ6.2.2.2.1 q z with y|y
    ·exact .inr y
    ·omega),.inr ⟨c,a,HQ6.2.2.2.2 _ (hs7),rfl⟩⟩
  clear hs7 HC6;exact⟨rfl,HD.out⟩
 have HR:Hid (FpO base g b off n cap t d (yDc F d s) (.tuple #[]) nv w (.returned (.tuple #[])) w7):=by have h9:FpO base g b off n cap t (d-1+1) (fun r=>r=yB5 s6) (.tuple #[]) nv6 w6 (.returned (.tuple #[])) w7:=⟨Hc7.out,.inl ⟨s7,hs7,rfl,k7,ks7,p7,nv7,hF7,hn7⟩⟩;rw[show d-1+1=d by omega]at h9;exact FpO.seq HQ6.2.2.1 HQ6.2.2.2.1 h9 (fun r hr=>HQ6.2.2.2.2 r hr)
 clear hs7 hF7 hn7 HC6;go_wp2_with fail;go_end0;exact HR.out
end Go.Proofs.YtgnpcenpcmdlfaaGreatDoor
