import Derived.Test.YtnnagkfoiganfaaGreatDoorHkAR
import Derived.Test.YtnnagkfoiganfaaGreatDoorHkAQ
import Derived.Test.YtnnagkfoiganfaaGreatDoorHkAM
namespace Go.Proofs.YtnnagkfoiganfaaGreatDoor
open Go.ChangeShapes Go.WideShapes Go.ChangeAt Go.RowKit Go.Deep XD XI XU XG XP XK XW XT XF XE XH _root_.List _root_.Nat Go.Proofs.Tryz
open _root_.Nat renaming le_trans->AA,succ_le_succ->AB,le_refl->AC
set_option linter.unusedVariables false
set_option linter.unusedSimpArgs false
set_option maxRecDepth 100000
set_option maxHeartbeats 64000000
variable {cs:List Ctr} {hints:Bool} {l M:List Ix} {k:Bk} {fs bs:List Bk} {n' gc cc nc:Nat} {X:List (List Ix)} {w' w w0:Ww} {e:Ending} {es:List Ent} {ys:List Nd}
section
variable {n:Nat}
theorem xHj(h:MvR l hints es cs n):n<=es.length/\(hints=false->n=es.length):=by
 induction h with
 |nil cs=>exact⟨AC _,λ_=>rfl⟩
 |cons hl hr ih=>
  obtain⟨h1,h2⟩:=ih;simp only[List.length_cons];split at h1
  .next hc=>exact⟨AB (AA h1 (List.dropWhile_sublist _).length_le),λq=>absurd (hc.2.symm.trans q) (by decide)⟩
  .next hc=>
   rw[iA hc]at h2;exact⟨AB h1,λq=>congrArg Nat.succ (h2 q)⟩
variable {m:Bk}
theorem yWp(h:RunM bs m es hints n):n<=es.length/\(hints=false->n=es.length):=by
 rcases h with⟨_,rfl⟩|⟨_,q⟩
 .exact⟨AC _,λ_=>rfl⟩
 .exact xHj q
theorem yWo(hv:bs.map Bk.vw=fs.map Bk.vw)(hm:m.vw=k.vw)(h:RunM bs m es hints n):RunM fs k es hints n:=by
 have he:bs= []↔fs= []:=by rw[<-List.map_eq_nil_iff (f:=Bk.vw),hv,List.map_eq_nil_iff]
 have h1:m.cnt=k.cnt:=congrArg Prod.fst hm;have h2:m.l=k.l:=congrArg Prod.snd hm;unfold RunM at h|-;rwa [he,h1,h2]at h
def xBj(ys:List Nd)(es:List Ent)(hints:Bool)(n:Nat):Prop:=
 ∃X M bs m,yLg ys X M/\bs.map Bk.vw=X.map yC9/\Bk.vw m=yC9 M/\RunM bs m es hints n
theorem yW8(h:xBj ys es hints n)(k:xBj ys es hints n'):n=n':=by obtain⟨X,M,bs,m,h1,h2,h3,h4⟩:=h;obtain⟨X',M',bs',m',k1,k2,k3,k4⟩:=k;obtain⟨rfl,rfl⟩:=yY0 h1 k1;exact(yWo (h2.trans k2.symm) (h3.trans k3.symm) h4).one k4
def FhR(ys:List Nd)(es:List Ent)(hints:Bool)(w:Ww)(e:Ending)(w':Ww):Prop:=
 ∃(a:Option Addr)(n c ops:Nat),e=.returned (.agg #[true,.slice a n c,xi ops])/\Hid (xBj ys es hints ops/\ops<=es.length/\(hints=false->ops=es.length)/\Below w w w')
theorem yRw(hC:yLg ys X M)(hv:bs.map Bk.vw=X.map yC9)(hm:m.vw=yC9 M)(hG:yB9 ys):yHj bs m:=by obtain⟨t,ht,rfl,rfl⟩:=hC;exact yYv hG ht hv hm
theorem xHu(hC:yLg ys X M)(hv:bs.map Bk.vw=X.map yC9)(hm:m.vw=yC9 M)(h:RunP bs m es hints w e w'):FhR ys es hints w e w':=by obtain⟨a,n,c,ops,rfl,h2,h4⟩:=h;have⟨k1,k2⟩:=yWp h2;exact⟨a,n,c,ops,rfl,⟨X,M,bs,m,hC,hv,hm,h2⟩,k1,k2,h4⟩
section
variable {ua:Option Addr} {ul uc:Nat} {ma:Option Addr} {ml mc:Nat} {cnt:Int} {bc:Nat}
theorem xIs(h:CdI w (.slice ua ul uc) (.slice ma ml mc) cnt ys bs M X)(hok:∀e∈ys,e.ok)(hC:OwnC w bc gc cc es)(hoe:∀e∈es,e.ok)(hk:∀e∈es,e.f=0)(hn:nc=es.length)(hl:nc<=100)(hT:TabD w)(hints:Bool)(hG:yB9 ys/\yC6 es):
  Calls prog 10 #[.agg #[.slice ua ul uc,.slice ma ml mc,xi cnt],xg gc nc cc,hints] w (FhR ys es hints w):=by
 obtain⟨m,hm⟩:=qE (⟨.slice ma ml mc,cnt,absG 0 0 M⟩:Bk);have hmv:m.vw=yC9 M:=by rw[hm];simp[yC9,h.cnt]
 have ho:=yYu hG.1 h.of hok h.view hmv;have hcm:yC5 w m.v m.l:=by rw[hm];exact h.cm
 have h9:=yU9 (m:=m) h.cu ho.1 hcm ho.2 hC hoe hk (by omega) hT hints hn (yRw h.of h.view hmv hG.1) hG.2 λwx hx=>yMa (yRw h.of h.view hmv hG.1) (h.cu.k hx) ho.1 (hcm.k hx qr) ho.2;rw[hm]at h9;refine h9.mono λe w' q=>?_;rw[<-hm]at q;exact xHu h.of h.view hmv q
theorem xHv(h:CdI w (.slice ua ul uc) (.slice ma ml mc) cnt ys bs M X)(hok:∀e∈ys,e.ok)(hC:OwnC w bc gc cc es)(hoe:∀e∈es,e.ok)(hk:∀e∈es,e.f=0)(hn:nc=es.length)(hl:nc<=100)(hints:Bool)(hG:yB9 ys/\yC6 es):
  Calls prog 18 #[.agg #[.slice ua ul uc,.slice ma ml mc,xi cnt],xg gc nc cc,hints] w (FhR ys es hints w):=by
 obtain⟨m,hm⟩:=qE (⟨.slice ma ml mc,cnt,absG 0 0 M⟩:Bk);have hmv:m.vw=yC9 M:=by rw[hm];simp[yC9,h.cnt]
 have ho:=yYu hG.1 h.of hok h.view hmv;have hcm:yC5 w m.v m.l:=by rw[hm];exact h.cm
 have h9:=yO (m:=m) h.cu ho.1 hcm ho.2 hC hoe hk (by omega) (yRw h.of h.view hmv hG.1) hG.2 hints hn;rw[hm]at h9;refine h9.mono λe w' q=>?_;rw[<-hm]at q;exact xHu h.of h.view hmv q
end
end
structure FhI(w0:Ww)(tf b o c nf gc cc nc:Nat)(ys:List Nd)(es:List Ent)(w:Ww):Prop where
 bf:yA w w0.heap.size 25 1 tf [.slice (some ⟨b,o,none⟩) nf c]
 wd:WdN w b o c ys
 ce:OwnC w w0.heap.size gc cc es
 tab:TabD w
 k:Below w0.heap.size w0 w
 lf:nf=ys.length
 lc:nc=es.length
 yo:∀e∈ys,e.ok
 eo:∀e∈es,e.ok
 ek:∀e∈es,e.f=0
 cl:nc<=100
theorem FhI.up{tf b o c nf:Nat}(h:FhI w0 tf b o c nf gc cc nc ys es w)(hb:Below w.heap.size w w'):FhI w0 tf b o c nf gc cc nc ys es w':=
 {h with bf:=h.bf.k hb,wd:=h.wd.k hb h.wd.lt,ce:=h.ce.k hb h.ce.lt.2,tab:=h.tab.i (S:=λ_=>False) (Chg.h hb) (λq=>q),k:=h.k.trans (hb.mono h.k.size)}
theorem yPl(v0:Vv)(n0:Nat)(w:Ww)(h0:yFs w v0 n0)(hg:TabD w):Calls prog 5 #[v0] w λe w'=>e=.returned (.bool true)/\Below w.heap.size w w':=by
 obtain⟨a0,cap0,hv0⟩:=h0.slice;subst hv0;have HI:Hid (yFs w (.slice a0 n0 cap0) n0/\TabD w):=⟨h0,hg⟩;have hr0:=h0.1;unfold maxLen at hr0;clear h0 hg;by_cases hbig:1048576<n0
 .have z:(1048576:Int)<(n0:Int):=by omega
  go_enter func5,ntmps5;go_wp2_with fail;go_ret;exact⟨rfl,Below.refl _ _⟩
 have z:¬(1048576:Int)<(n0:Int):=by omega
 have h10:n0<=1048576:=by omega
 go_enter func5,ntmps5;go_wp2_with fail;refine(yIu _ n0 _ (HI.1.code h10)).mono ?_;rintro e w1 ⟨b,o,c,ys,gc,cc,es,rfl,hyl,hel,H1⟩;have hb1:Below w.heap.size w w1:=H1.2.2;obtain⟨W1,hW1⟩:=qE (w1.alloc (Obj.cells #[.slice (some ⟨b,o,none⟩) ys.length c] 25):Ww);obtain⟨tf,htf⟩:=qE w1.heap.size;obtain⟨nf,hnf⟩:=qE ys.length;obtain⟨nc,hnc⟩:=qE es.length;rw[<-hnf]at hW1 hyl|-;rw[<-hnc]at hel|-;have HN:Hid (∀wx,Below W1.heap.size W1 wx->FhI w tf b o c nf gc cc nc ys es wx):=by
  have s1:=hb1.size;have k1:Below w1.heap.size w1 W1:=by rw[hW1];exact qB
  have kw:Below w.heap.size w W1:=hb1.trans (k1.mono s1);obtain⟨⟨y1,y2,y3,y4⟩,⟨e1,e2,e3⟩,_⟩:=H1.out;intro wx hx;exact FhI.up (w:=W1) ⟨by rw[hW1,htf];exact yAa w1 _ s1 rfl,(WdN.mk y2 y3.2 y4).k k1 y3.2,e1.k k1 e1.lt.2,HI.2.i (S:=λ_=>False) (Chg.h kw) (λq=>q),kw,hnf,hnc,y1,e2,e3,hel⟩ hx
 clear H1 hb1 hnf hnc hel HI;have HVf:Hid (Calls prog 8 #[.agg #[.slice (some ⟨b,o,none⟩) nf c]] W1 (yN1 ys W1)):=by have h9:=HN.out W1 (Below.refl _ _);rw[h9.lf];exact yDx h9.wd h9.yo
 have HVc:Hid (∀wx,Below W1.heap.size W1 wx->Calls prog 9 #[.slice (some ⟨gc,0,none⟩) nc cc] wx (yKi (yC6 es) wx)):=λwx hx=>by have h9:=HN.out wx hx;have h8:=yGb gc cc es w.heap.size wx h9.ce h9.eo (by have:=h9.lc;have:=h9.cl;omega);rw[yIz h9.ek]at h8;rw[h9.lc];exact h8
 have c1:=(HN.out W1 (Below.refl _ _)).bf.z (j:=0) rfl;go_upto_region 4 with fail;rw[<-hW1,<-htf];clear hW1 htf;go_wp2_with fail;refine HVf.mono ?_;rintro e w3 ⟨r,rfl,hr,hb3⟩;have HG:Hid (r=true↔yB9 ys):=hr;have HB3:Hid (Below W1.heap.size W1 w3):=hb3;clear hr hb3 c1 HVf;cases r
 case false=>go_wp2_with fail;go_ret;exact⟨rfl,(HN.out _ HB3.out).k⟩
 case true=>
 have HG1:Hid (yB9 ys):=HG.1 (by first|rfl|trivial);have HVc3:Hid (Calls prog 9 #[.slice (some ⟨gc,0,none⟩) nc cc] w3 (yKi (yC6 es) w3)):=HVc.out w3 HB3.out;clear HG HVc;go_wp2_with fail;refine HVc3.mono ?_;rintro e w4 ⟨r2,rfl,hr2,hb4⟩;have HG2:Hid (r2=true↔yC6 es):=hr2;have HB4:Hid (Below W1.heap.size W1 w4):=HB3.trans (hb4.mono HB3.size);clear hr2 hb4 HVc3 HB3;cases r2
 case false=>go_wp2_with fail;go_ret;exact⟨rfl,(HN.out _ HB4.out).k⟩
 case true=>
 have HGd:Hid (yB9 ys/\yC6 es):=⟨HG1.out,HG2.1 (by first|rfl|trivial)⟩;clear HG1 HG2;have HCm:Hid (Calls prog 7 #[.agg #[.slice (some ⟨b,o,none⟩) nf c]] w4 (CmpI ys w4)):=by have h9:=HN.out w4 HB4.out;rw[h9.lf];exact yJ0 h9.wd HGd.1
 have c1:=(HN.out w4 HB4.out).bf.z (j:=0) rfl;go_wp2_with fail;refine HCm.mono ?_;rintro e w5 ⟨ca,cn,ck,ma,mn,mk,cnt,X,M,bs,rfl,hCd,hOf,_⟩;obtain⟨W5,hW5⟩:=qE (w5.alloc (Obj.cells #[.slice ca cn ck,.slice ma mn mk,.int .i64 cnt] 34):Ww);obtain⟨tc,htc⟩:=qE w5.heap.size;have k5:Below w5.heap.size w5 W5:=by rw[hW5];exact qB
 have HB5:Hid (Below W1.heap.size W1 W5):=HB4.trans ((hCd.V.k.trans (k5.mono hCd.V.k.size)).mono HB4.size);have HK5:Hid (∀wx,Below W5.heap.size W5 wx->yA wx w.heap.size 34 3 tc [.slice ca cn ck,.slice ma mn mk,.int .i64 cnt]/\CdI wx (.slice ca cn ck) (.slice ma mn mk) cnt ys bs M X):=λwx hx=>by refine⟨yA.k (w:=W5) ?_ hx,((xCl hCd hOf).k k5).k hx⟩;rw[hW5,htc];exact yAa w5 _ (AA (HN.out w4 HB4.out).k.size hCd.V.k.size) rfl
 clear hCd hOf k5 HCm c1 HB4;go_upto_region 7 with fail;rw[<-hW5,<-htc];clear hW5 htc;have HRn:Hid (∀hints wx,Below W5.heap.size W5 wx->Calls prog 10 #[.agg #[.slice ca cn ck,.slice ma mn mk,.int .i64 cnt],.slice (some ⟨gc,0,none⟩) nc cc,.bool hints] wx (FhR ys es hints wx)):=λhints wx hx=>by have h9:=HN.out wx (HB5.trans (hx.mono HB5.size));exact xIs (HK5.out wx hx).2 h9.yo h9.ce h9.eo h9.ek h9.lc h9.cl h9.tab hints HGd.out
 have HR5:=hidO (HRn.out true W5 (Below.refl _ _));have d0:=(HK5.out W5 (Below.refl _ _)).1.z (j:=0) rfl;have d1:=(HK5.out W5 (Below.refl _ _)).1.z (j:=1) rfl;have d2:=(HK5.out W5 (Below.refl _ _)).1.z (j:=2) rfl;go_wp2_with fail;refine HR5.mono ?_;rintro e w6 ⟨a5,n5,c5,p5,rfl,H5⟩;obtain⟨W6,hW6⟩:=qE (w6.alloc (Obj.cells #[.bool true,.slice a5 n5 c5,.int .i64 (p5:Int)] 39):Ww);obtain⟨ta,hta⟩:=qE w6.heap.size;have k6:Below w6.heap.size w6 W6:=by rw[hW6];exact qB
 have HB6:Hid (Below W5.heap.size W5 W6):=H5.2.2.2.trans (k6.mono H5.2.2.2.size);have HS6:Hid (∀wx,Below W6.heap.size W6 wx->yA wx w.heap.size 39 3 ta [.bool true,.slice a5 n5 c5,.int .i64 (p5:Int)]):=λwx hx=>by refine yA.k (w:=W6) ?_ hx;rw[hW6,hta];exact yAa w6 _ (AA (HN.out W5 HB5.out).k.size H5.2.2.2.size) rfl
 clear k6 HR5 d0 d1 d2;go_upto_region 8 with fail;rw[<-hW6,<-hta];clear hW6 hta;have HR6:=hidO (HRn.out false W6 HB6.out);have d0:=(HK5.out W6 HB6.out).1.z (j:=0) rfl;have d1:=(HK5.out W6 HB6.out).1.z (j:=1) rfl;have d2:=(HK5.out W6 HB6.out).1.z (j:=2) rfl;go_wp2_with fail;refine HR6.mono ?_;rintro e w7 ⟨a6,n6,c6,p6,rfl,H6⟩;obtain rfl:p6=nc:=(H6.2.2.1 rfl).trans (HN.out W5 HB5.out).lc.symm;obtain⟨W7,hW7⟩:=qE (w7.alloc (Obj.cells #[.bool true,.slice a6 n6 c6,.int .i64 (p6:Int)] 39):Ww);obtain⟨tb,htb⟩:=qE w7.heap.size;have k7:Below w7.heap.size w7 W7:=by rw[hW7];exact qB
 have HB7:Hid (Below W6.heap.size W6 W7):=H6.2.2.2.trans (k7.mono H6.2.2.2.size);have HS7:Hid (∀wx,Below W7.heap.size W7 wx->yA wx w.heap.size 39 3 ta [.bool true,.slice a5 n5 c5,.int .i64 (p5:Int)]/\yA wx w.heap.size 39 3 tb [.bool true,.slice a6 n6 c6,.int .i64 (p6:Int)]/\FhI w tf b o c nf gc cc p6 ys es wx):=λwx hx=>by have hx6:Below W6.heap.size W6 wx:=HB7.trans (hx.mono HB7.size);have hx5:Below W5.heap.size W5 wx:=HB6.trans (hx6.mono HB6.size);refine⟨HS6.out wx hx6,yA.k (w:=W7) ?_ hx,HN.out wx (HB5.trans (hx5.mono HB5.size))⟩;rw[hW7,htb];exact yAa w7 _ (AA (AA (HN.out W5 HB5.out).k.size HB6.size) H6.2.2.2.size) rfl
 clear k7 HR6 d0 d1 d2 H6 HRn HS6;go_upto_region 9 with fail;rw[<-hW7,<-htb];clear hW7 htb;have HP:Hid (xBj ys es true p5/\p5<=p6):=⟨H5.1,by rw[(HN.out W5 HB5.out).lc];exact H5.2.1⟩;clear H5 HN HK5 HB5 HB6 HB7;have z1:(p5:Int)<=(p6:Int):=by have:=HP.2;omega
 have HCs:Hid (Calls prog 28 #[.agg #[.slice (some ⟨b,o,none⟩) nf c]] W7.drew (CmpU ys W7.drew)):=by have h9:=(HS7.out W7.drew (Below.refl _ _).drew).2.2;rw[h9.lf];exact yJg h9.wd h9.yo HGd.1
 have HST:Hid (∀wx,Below W7.heap.size W7 wx->(λw':Ww=>w'.cell? ⟨ta,0,none⟩=some (.bool true)/\w'.cell? ⟨ta,2,none⟩=some (.int .i64 (p5:Int))/\w'.cell? ⟨tb,0,none⟩=some (.bool true)/\w'.cell? ⟨tb,2,none⟩=some (.int .i64 (p6:Int))/\w'.cell? ⟨tf,0,none⟩=some (.slice (some ⟨b,o,none⟩) nf c)) wx):=λwx hx=>by obtain⟨q1,q2,q3⟩:=HS7.out wx hx;exact⟨q1.z (j:=0) rfl,q1.z (j:=2) rfl,q2.z (j:=0) rfl,q2.z (j:=2) rfl,q3.bf.z (j:=0) rfl⟩
 have hS:=HST.out W7.drew (Below.refl _ _).drew;refine yAf 99 (λw':Ww=>w'.cell? ⟨ta,0,none⟩=some (.bool true)/\w'.cell? ⟨ta,2,none⟩=some (.int .i64 (p5:Int))/\w'.cell? ⟨tb,0,none⟩=some (.bool true)/\w'.cell? ⟨tb,2,none⟩=some (.int .i64 (p6:Int))/\w'.cell? ⟨tf,0,none⟩=some (.slice (some ⟨b,o,none⟩) nf c)) (by kernel_rfl) ?_;refine ja 0 hS ?_;iterate 10 refine jb hS ?_
 refine ja (v:=.bool true) 11 hS ?_;iterate 6 refine jb hS ?_
 refine ja (v:=.bool true) 18 hS ?_;iterate 5 refine jb hS ?_
 refine ja 25 hS ?_;refine qO 24 rfl λK hK=>?_;go_simp;go_at_call 28;refine HCs.mono ?_;rintro e w8 ⟨ca8,cn8,ck8,ma8,mn8,mk8,cnt8,X8,M8,bs8,rfl,hCd8,hOf8⟩;have HB8:Hid (Below W7.heap.size W7 w8):=(Below.refl _ _).drew.trans hCd8.V.k;have HRs:Hid (Calls prog 18 #[.agg #[.slice ca8 cn8 ck8,.slice ma8 mn8 mk8,.int .i64 cnt8],.slice (some ⟨gc,0,none⟩) p6 cc,.bool true] w8 (FhR ys es true w8)):=by have h9:=(HS7.out w8 HB8.out).2.2;exact xHv (xCl hCd8 hOf8) h9.yo h9.ce h9.eo h9.ek h9.lc h9.cl true HGd.out
 clear hCd8 hOf8 HCs hS;have hS:=HST.out w8 HB8.out;refine hK.out _ _ (.inr hS) ?_;clear hK;refine jS ?_;refine qO 26 rfl λK hK=>?_;go_simp;go_at_call 18;refine HRs.mono ?_;rintro e w9 ⟨a9,n9,c9,p9,rfl,H9⟩;obtain rfl:p9=p5:=yW8 H9.1 HP.1;have HB9:Hid (Below W7.heap.size W7 w9):=HB8.trans (H9.2.2.2.mono HB8.size);clear H9 HRs hS;have hS:=HST.out w9 HB9.out;refine hK.out _ _ (.inr hS) ?_;clear hK;refine jS ?_;have hfd:∀W:Ww,(Instr.field 39 (.agg #[.bool true,.slice a9 n9 c9,.int .i64 (p9:Int)]) 2).run prog W=.ok (.int .i64 (p9:Int)) W:=λW=>by kernel_rfl
 refine ja 27 hS ?_;refine ja (v:=.bool true) 28 hS ?_;iterate 2 refine jb hS ?_
 refine qD ?_;clear hS;go_wp2_with fail;go_ret;exact⟨rfl,(HS7.out w9 HB9.out).2.2.k⟩
end Go.Proofs.YtnnagkfoiganfaaGreatDoor
