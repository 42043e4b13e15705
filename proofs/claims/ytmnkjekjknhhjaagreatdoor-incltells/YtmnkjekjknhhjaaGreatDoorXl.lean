import Derived.Test.YtmnkjekjknhhjaaGreatDoorXe
namespace Go.Proofs.YtmnkjekjknhhjaaGreatDoor
open Go.ChangeShapes Go.WideShapes Go.ChangeAt Go.RowKit Go.Maps
theorem zhM {x:Lin} {b:List Lin} {q:Pr} {P:Pr→Prop} (hnew:∀ m c M,chosenL q.c x.ps m=some c→(nextM M b q.l (zao c)).2.1=0→P ⟨halfL c,(nextM M b q.l (zao c)).1,zaf q.w (zao c) q.n,q.n+1⟩) :
  ∀ (k m:Nat) (Q:List Pr) (M:Mr),(∀ z∈Q,P z)→∀ z∈(zal x b q k m Q M).1,P z
 | 0,m,Q,M,h=>h
 | k+1,m,Q,M,h=>by
  cases hc:chosenL q.c x.ps m with
  | none=>rw [zcf hc];exact h
  | some c=>
   by_cases h1:(nextM M b q.l (zao c)).2.1=0
   ·by_cases h2:zkP Q (halfL c) (nextM M b q.l (zao c)).1=true
    ·rw [zdt hc h1 h2]
     exact zhM hnew k (m+1) Q _ h
    ·by_cases h3:(spendM (nextM M b q.l (zao c)).2.2 1).1=true
     ·rw [zdu hc h1 h2 h3]
      refine zhM hnew k (m+1) _ _ (fun z hz=>?_)
      rcases List.mem_append.1 hz with hz | hz
      ·exact h z hz
      ·rw [List.mem_singleton] at hz
       subst hz
       exact hnew m c M hc h1
     ·rw [zbB hc h1 h2 h3];exact h
   ·rw [zcA hc h1];exact h
theorem zgC (x:Lin) (b:List Lin) (q:Pr) (k m:Nat) (Q:List Pr) (M:Mr):Q.length≤(zal x b q k m Q M).1.length:=by
 obtain ⟨R,e⟩:=zeI x b q k m Q M
 rw [e,List.length_append]
 omega
theorem zt0 {mp:Option Addr} {gs gm:Nat} {qa qb:Option Addr} {W V:World} {X:Nat→Prop} (_k:Kept X W V) (f:∀ g,qb=some ⟨g,0,none⟩→qa=some ⟨g,0,none⟩∨W.heap.size≤g):∀ i,i<W.heap.size→SX mp gs gm qb i→SX mp gs gm qa i:=fun i hi e=>by
 rcases e with e | e | e | e
 ·exact .inl e
 ·exact .inr (.inl e)
 ·exact .inr (.inr (.inl e))
 ·exact .inr (.inr (.inr ((f i e).resolve_right (by omega))))
structure ChEnv (w0:World) (mp:Option Addr) (b:List Lin) (ba:Option Addr) (bc:Nat) (X:Lin) (pa:Option Addr) (pc lv:Nat) (x:Pr):Prop where
 tab:zt7 mp w0
 bl:∀ V,MK mp w0 V→Lins V ba bc b
 ps:∀ V,MK mp w0 V→Bags V pa pc X.ps
 rp:∀ q∈X.ps,zaa q=true
 c:zaa x.c=true
 cost:zez b x.l≤100000000000
 n:x.n=lv
 far:lv≤59
 w:zaa x.w=true
 low:∀ t,x.w.getD t 0<2 ^ x.n
 new:∀ m c M,chosenL x.c X.ps m=some c→(nextM M b x.l (zao c)).2.1=0→PairR ⟨halfL c,(nextM M b x.l (zao c)).1,zaf x.w (zao c) x.n,x.n+1⟩
def zoc (w0:World) (mp:Option Addr) (gs gm:Nat) (b:List Lin) (ba:Option Addr) (bc:Nat) (X:Lin) (pa:Option Addr) (pc lv k0:Nat) (x:Pr) (ca:Option Addr) (cc:Nat) (la:Option Addr) (lc:Nat) (wa:Option Addr) (wc i:Nat):Prop:=
 ∀ (W:World) (M:Mr) (Q:List Pr) (qa:Option Addr) (qc:Nat) (sa:Option Addr) (sc:Nat) (c:List Int) (m:Nat),SqAt w0 mp M gs gm (.slice ba b.length bc) lv qa qc (Q.drop k0) (Q.map zhw) W→QbAt W ⟨ca,cc,la,lc,wa,wc,x⟩→Bag W sa sc c→
  chosenL x.c X.ps m=some c→m % 2 ^ i=0→i≤X.ps.length→(∀ z∈Q,PairR z)→(chGo X b x i c Q M).1.length≤1000000000→k0≤Q.length→
  Calls Tryz.prog 118 #[.pointer (some ⟨gs,0,none⟩),.agg #[.slice ca x.c.length cc,.slice la x.l.length lc,.slice wa x.w.length wc],.slice sa c.length sc,.slice pa i pc] W (zee w0 mp gs gm (.slice ba b.length bc) lv k0 qa W (chGo X b x i c Q M))
set_option maxRecDepth 100000 in
set_option maxHeartbeats 4000000 in
theorem ziL {w0:World} {mp:Option Addr} {gs gm:Nat} {b:List Lin} {ba:Option Addr} {bc:Nat} {X:Lin} {pa:Option Addr} {pc lv k0:Nat} {x:Pr} (E:ChEnv w0 mp b ba bc X pa pc lv x) (ca:Option Addr) (cc:Nat) (la:Option Addr) (lc:Nat) (wa:Option Addr) (wc:Nat) :
  zoc w0 mp gs gm b ba bc X pa pc lv k0 x ca cc la lc wa wc 0:=by
 intro W M Q qa qc sa sc c m S hp hsum hch _ _ hQ hlen hk0
 have hc:=zbd _ _ _ _ E.c hch
 have hQl:Q.length≤1000000000:=by
  have e:chGo X b x 0 c Q M=zal X b x 1 m Q M:=(zob hch Q M).symm
  rw [e] at hlen
  exact Nat.le_trans (zgC ..) hlen
 have bb:=below_alloc W (.cells #[.slice ca x.c.length cc,.slice la x.l.length lc,.slice wa x.w.length wc] 128)
 have HX1:=dq (Lies.new W 128 [.slice ca x.c.length cc,.slice la x.l.length lc,.slice wa x.w.length wc])
 have Z:=ztZ X _ (S.below bb) E.tab E.bl ⟨ca,cc,la,lc,wa,wc,x⟩ (hp.below bb) sa sc c (hsum.below bb) hc E.cost E.n E.far E.w E.low (E.new m c M hch) hQ hQl hk0
 have hlez:=hsum.le
 have HK1:Hid (Kept (SX mp gs gm qa) W (W.alloc (.cells #[.slice ca x.c.length cc,.slice la x.l.length lc,.slice wa x.w.length wc] 128))):=dq (Kept.of_below bb)
 have HE:Hid (chGo X b x 0 c Q M=zhv X b x c Q M):=dq rfl
 have HHC:=dq hp.c.le
 have HHL:=dq hp.l.le
 have HHW:=dq hp.w.le
 simp only at Z HHC HHL HHW
 generalize hcl:c.length=cl at hlez Z ⊢
 generalize hn1:x.c.length=n1 at HX1 HK1 Z ⊢
 generalize hn2:x.l.length=n2 at HX1 HK1 Z ⊢
 generalize hn3:x.w.length=n3 at HX1 HK1 Z ⊢
 generalize (Value.slice ba b.length bc)=bv at Z ⊢
 generalize chGo X b x 0 c Q M=r at HE ⊢
 have HZ:=dq Z
 clear Z bb S hp hsum hch hQ hlen hk0 hc hQl hn1 hn2 hn3 hcl E
 go_enter Tryz.func118,Tryz.ntmps118
 have e1:=HX1.out.cell 0
 have e2:=HX1.out.cell 1
 have e3:=HX1.out.cell 2
 simp only [List.getElem?_cons_zero,List.getElem?_cons_succ] at e1 e2 e3
 go_wp2_with (fail)
 refine HZ.out.mono ?_
 clear HZ
 rintro e W2 ⟨rfl,qa2,qc2,s2,k2,f2⟩
 have HF:Hid (zee w0 mp gs gm bv lv k0 qa W r (.returned (.int .i64 (zhv X b x c Q M).2.1)) W2):=dq (by
  rw [HE.out]
  exact ⟨rfl,qa2,qc2,s2,HK1.out.trans k2 (fun i hi e=>e),fun g e=>(f2 g e).imp id (fun h=>Nat.le_trans HK1.out.size h)⟩)
 clear s2 k2 f2
 generalize (zhv X b x c Q M).2.1=er at HF ⊢
 go_wp2
 go_ret
 exact HF.out
set_option maxRecDepth 100000 in
set_option maxHeartbeats 4000000 in
theorem ziM {w0:World} {mp:Option Addr} {gs gm:Nat} {b:List Lin} {ba:Option Addr} {bc:Nat} {X:Lin} {pa:Option Addr} {pc lv k0:Nat} {x:Pr} (E:ChEnv w0 mp b ba bc X pa pc lv x) (ca:Option Addr) (cc:Nat) (la:Option Addr) (lc:Nat) (wa:Option Addr) (wc i:Nat)
  (IH:zoc w0 mp gs gm b ba bc X pa pc lv k0 x ca cc la lc wa wc i):zoc w0 mp gs gm b ba bc X pa pc lv k0 x ca cc la lc wa wc (i+1):=by
 intro W M Q qa qc sa sc c m S hp hsum hch hm hi hQ hlen hk0
 have hc:=zbd _ _ _ _ E.c hch
 have hm2:m % 2 ^ i=0:=by
  have:m % 2 ^ (i+1) % 2 ^ i=m % 2 ^ i:=Nat.mod_mod_of_dvd m ⟨2,Nat.pow_succ 2 i⟩
  rw [hm,Nat.zero_mod] at this
  exact this.symm
 obtain ⟨_,hmore⟩:=ziJ X.ps x.c i m c (by omega) E.rp E.c hm hch
 have hk1:=zgV (b:=b) E.rp E.c i m c Q M (by omega) hm2 hch
 have hall:∀ z∈(chGo X b x i c Q M).1,PairR z:=by rw [hk1];exact zhM E.new _ _ _ _ hQ
 have hgr:Q.length≤(chGo X b x i c Q M).1.length:=by rw [hk1];exact zgC ..
 have hee:chGo X b x (i+1) c Q M=if (chGo X b x i c Q M).2.1=0 then
   if zaz c (X.ps.getD i [])=true then chGo X b x i (addT c (X.ps.getD i [])) (chGo X b x i c Q M).1 (chGo X b x i c Q M).2.2
   else ((chGo X b x i c Q M).1,3,(chGo X b x i c Q M).2.2)
  else chGo X b x i c Q M:=rfl
 have hlen1:(chGo X b x i c Q M).1.length≤1000000000:=by
  rw [hee] at hlen
  split at hlen
  ·split at hlen
   ·next ha=>
    rw [if_pos ha] at hmore
    have hk2:=zgV (b:=b) E.rp E.c i (m+2 ^ i) _ (chGo X b x i c Q M).1 (chGo X b x i c Q M).2.2 (by omega) (by rw [Nat.add_mod_right];exact hm2) hmore
    rw [hk2] at hlen
    exact Nat.le_trans (zgC ..) hlen
   ·exact hlen
  ·exact hlen
 obtain ⟨r1,hr1⟩:∃ r1,r1=chGo X b x i c Q M:=⟨_,rfl⟩
 have HR1:=dq hr1
 have bb0:=below_alloc W (.cells #[.slice ca x.c.length cc,.slice la x.l.length lc,.slice wa x.w.length wc] 128)
 have bb:Below W.heap.size W (W.alloc (.cells #[.slice ca x.c.length cc,.slice la x.l.length lc,.slice wa x.w.length wc] 128)).drew:=zff bb0
 have HS1:=dq (S.below bb)
 have HP1:=dq (hp.below bb)
 have HC1:=dq (hsum.below bb)
 have HX1:Hid (Lies (W.alloc (.cells #[.slice ca x.c.length cc,.slice la x.l.length lc,.slice wa x.w.length wc] 128)).drew W.heap.size 128 [.slice ca x.c.length cc,.slice la x.l.length lc,.slice wa x.w.length wc]):=dq (Lies.new W 128 [.slice ca x.c.length cc,.slice la x.l.length lc,.slice wa x.w.length wc])
 have HK1:Hid (Kept (SX mp gs gm qa) W (W.alloc (.cells #[.slice ca x.c.length cc,.slice la x.l.length lc,.slice wa x.w.length wc] 128)).drew):=dq (Kept.of_below bb)
 have hlez:=hsum.le
 have HNX:Hid (¬SX mp gs gm qa W.heap.size):=dq (fun e=>by
  rcases e with e | e | e | e
  ·have:=S.old _ e;have:=S.kept.size;omega
  ·have:=S.box.lt;omega
  ·have:=S.map.lt;omega
  ·exact Nat.lt_irrefl _ (S.prs.lt e))
 have Z:=IH _ M Q qa qc sa sc c m HS1.out HP1.out HC1.out hch hm2 (by omega) hQ hlen1 hk0
 rw [←hr1] at Z hall hgr hee hlen1
 have HIH2:Hid (r1.2.1=0→zaz c (X.ps.getD i [])=true→∀ V qa' qc' sa' sc',SqAt w0 mp r1.2.2 gs gm (.slice ba b.length bc) lv qa' qc' (r1.1.drop k0) (r1.1.map zhw) V→QbAt V ⟨ca,cc,la,lc,wa,wc,x⟩→Bag V sa' sc' (addT c (X.ps.getD i []))→
   Calls Tryz.prog 118 #[.pointer (some ⟨gs,0,none⟩),.agg #[.slice ca x.c.length cc,.slice la x.l.length lc,.slice wa x.w.length wc],.slice sa' (addT c (X.ps.getD i [])).length sc',.slice pa i pc] V (zee w0 mp gs gm (.slice ba b.length bc) lv k0 qa' V (chGo X b x i (addT c (X.ps.getD i [])) r1.1 r1.2.2))):=dq (fun h0 ha V qa' qc' sa' sc' s p y=>by
  rw [if_pos ha] at hmore
  rw [hee,if_pos h0,if_pos ha] at hlen
  exact IH V r1.2.2 r1.1 qa' qc' sa' sc' _ (m+2 ^ i) s p y hmore (by rw [Nat.add_mod_right];exact hm2) (by omega) hall hlen (Nat.le_trans hk0 hgr))
 have HEE:=dq hee
 have hBP:=E.ps _ HS1.out.kept
 have hlep:=hBP.le
 obtain ⟨gp,pb,pd,hpa,_,_⟩:=hBP.at (k:=i) (by omega)
 subst hpa
 have HPS:=dq (fun V (h:MK mp w0 V)=>E.ps V h)
 have hil:i<X.ps.length:=by omega
 have HIL:=dq hil
 have HRC:=dq hc
 have HAA:Hid (zaz c (X.ps.getD i [])=true→zbp c (X.ps.getD i [])=addT c (X.ps.getD i [])):=dq (fun h=>by unfold zbp;rw [if_pos h])
 generalize hpp:X.ps.getD i []=pp at HEE HIH2 HAA
 have HPP:=dq hpp
 generalize hcl:c.length=cl at hlez Z ⊢
 have HCL:=dq hcl
 generalize hn1:x.c.length=n1 at HX1 HK1 HIH2 Z ⊢
 generalize hn2:x.l.length=n2 at HX1 HK1 HIH2 Z ⊢
 generalize hn3:x.w.length=n3 at HX1 HK1 HIH2 Z ⊢
 rw [hn1,hn2,hn3] at HS1 HP1 HC1
 generalize (Value.slice ba b.length bc)=bv at HS1 HIH2 Z ⊢
 generalize chGo X b x (i+1) c Q M=r at HEE ⊢
 have HZ:=dq Z
 clear Z bb bb0 S hp hsum hch hQ hlen hk0 hc hn1 hn2 hn3 hcl E IH hall hgr hee hlen1 hr1 hk1 hmore hm hm2 hBP hpp
 have hipc:i≤pc:=by omega
 have i2:((i:Int)+1==0)=false:=by simp;omega
 have i3:¬((i:Int)+1=0):=by omega
 go_enter Tryz.func118,Tryz.ntmps118
 go_upto_region 4 with (fail)
 generalize (W.alloc (.cells #[.slice ca n1 cc,.slice la n2 lc,.slice wa n3 wc] 128))=W0 at HS1 HP1 HC1 HX1 HK1 HZ ⊢
 generalize hgx:W.heap.size=gx at HX1 HNX ⊢
 have HGX:=dq hgx
 clear hgx
 have bd:Lies W0.drew gx 128 [.slice ca n1 cc,.slice la n2 lc,.slice wa n3 wc]:=HX1.out
 refine wp_region_held_drew (S:=fun V=>Lies V gx 128 [.slice ca n1 cc,.slice la n2 lc,.slice wa n3 wc]) (by kernel_rfl) bd (fun hHeld=>?_)
 clear hHeld
 refine wpAnyH_take (i:=0) (oi:=⟨some 23,.move (.tmp 0),160,"search.go:85",#[],none⟩) (v:=?_) rfl (by kernel_rfl) (by kernel_rfl) (by kernel_rfl) (fun _ _ _ h=>h) (Or.inl ⟨by rfl,?_⟩) bd ?_
 rotate_left
 ·intro w hSw
  go_simp
  try with_reducible rfl
 try simp only [Act.put,List.setIfInBounds_toArray,List.set_cons_zero,List.set_cons_succ]
 refine wpAnyH_take (i:=1) (oi:=⟨some 24,.load 128 (.tmp 5),128,"search.go:85",#[],none⟩) (v:=?_) rfl (by kernel_rfl) (by kernel_rfl) (by kernel_rfl) (fun _ _ _ h=>h) (Or.inl ⟨by rfl,?_⟩) bd ?_
 rotate_left
 ·intro w hSw
  have y0:=hSw.cell 0
  have y1:=hSw.cell 1
  have y2:=hSw.cell 2
  simp only [List.getElem?_cons_zero,List.getElem?_cons_succ] at y0 y1 y2
  go_simp
  try with_reducible rfl
 try simp only [Act.put,List.setIfInBounds_toArray,List.set_cons_zero,List.set_cons_succ]
 refine wpAnyH_take (i:=2) (oi:=⟨some 25,.move (.tmp 2),31,"search.go:85",#[],none⟩) (v:=?_) rfl (by kernel_rfl) (by kernel_rfl) (by kernel_rfl) (fun _ _ _ h=>h) (Or.inl ⟨by rfl,?_⟩) bd ?_
 rotate_left
 ·intro w hSw
  go_simp
  try with_reducible rfl
 try simp only [Act.put,List.setIfInBounds_toArray,List.set_cons_zero,List.set_cons_succ]
 refine wpAnyH_take (i:=3) (oi:=⟨some 26,.move (.tmp 3),51,"search.go:85",#[],none⟩) (v:=?_) rfl (by kernel_rfl) (by kernel_rfl) (by kernel_rfl) (fun _ _ _ h=>h) (Or.inl ⟨by rfl,?_⟩) bd ?_
 rotate_left
 ·intro w hSw
  go_simp
  try with_reducible rfl
 try simp only [Act.put,List.setIfInBounds_toArray,List.set_cons_zero,List.set_cons_succ]
 refine wpAnyH_take (i:=4) (oi:=⟨some 27,.move (.tmp 9),3,"search.go:85",#[],none⟩) (v:=?_) rfl (by kernel_rfl) (by kernel_rfl) (by kernel_rfl) (fun _ _ _ h=>h) (Or.inl ⟨by rfl,?_⟩) bd ?_
 rotate_left
 ·intro w hSw
  go_simp
  try with_reducible rfl
 try simp only [Act.put,List.setIfInBounds_toArray,List.set_cons_zero,List.set_cons_succ]
 refine wpAnyH_take (i:=5) (oi:=⟨some 28,.slice 51 (.tmp 26) none (some (.tmp 27)) none,51,"search.go:85",#[⟨3,.data⟩,⟨4,.data⟩],none⟩) (v:=?_) rfl (by kernel_rfl) (by kernel_rfl) (by kernel_rfl) (fun _ _ _ h=>h) (Or.inl ⟨by rfl,?_⟩) bd ?_
 rotate_left
 ·intro w hSw
  go_simp
  try with_reducible rfl
 try simp only [Act.put,List.setIfInBounds_toArray,List.set_cons_zero,List.set_cons_succ]
 refine wpAnyH_ready (rs:=[6]) (by kernel_rfl) (by simp) ?_
 refine AllReadyH.cons (o:=⟨some 29,.call {callee:=.value (.func 118),args:=#[.tmp 23,.tmp 24,.tmp 25,.tmp 28],argTypes:=#[160,128,31,51]},34,"search.go:85",#[⟨0,.data⟩,⟨1,.data⟩,⟨2,.data⟩,⟨5,.data⟩],none⟩) rfl (fun K hK=>?_) AllReadyH.nil
 have Z:=HZ.out
 go_simp
 refine Z.mono ?_
 clear Z HZ
 rintro e W2 ⟨rfl,qa2,qc2,s2,k2,f2⟩
 have HX2:=dq (HX1.out.kept k2 HNX.out)
 have b2:=HX2.out
 have HS2:=dq s2
 have HK2:=dq (HK1.out.trans k2 (fun i hi e=>e))
 have HF2:Hid (∀ g,qa2=some ⟨g,0,none⟩→qa=some ⟨g,0,none⟩∨W.heap.size≤g):=dq (fun g e=>(f2 g e).imp id (fun h=>Nat.le_trans HK1.out.size h))
 have HN2Q:Hid (¬qa2=some ⟨gx,0,none⟩):=dq (fun e=>(f2 _ e).elim (fun h=>HNX.out (.inr (.inr (.inr h)))) (fun h=>by have:=HX1.out.lt;omega))
 have HP2:=dq (HP1.out.far k2 HS1.out.far)
 have HC2:=dq (HC1.out.farQ k2 HS1.out.far)
 clear s2 k2 f2 HS1 HK1 HP1 HC1 HX1
 go_wp2_with (fail)
 refine hK.out _ _ b2 (fun hHeld=>?_)
 clear hK K hHeld
 try simp only [Act.put,List.setIfInBounds_toArray,List.set_cons_zero,List.set_cons_succ]
 refine wpAnyH_take (i:=7) (oi:=⟨some 10,.assign (.tmp 29),34,"search.go:85",#[⟨6,.data⟩,⟨6,.chain⟩,⟨0,.phase⟩,⟨1,.phase⟩,⟨2,.phase⟩,⟨3,.phase⟩,⟨4,.phase⟩,⟨5,.phase⟩,⟨6,.phase⟩],none⟩) (v:=?_) rfl (by kernel_rfl) (by kernel_rfl) (by kernel_rfl) (fun _ _ _ h=>h) (Or.inl ⟨by rfl,?_⟩) b2 ?_
 rotate_left
 ·intro w hSw
  go_simp
  try with_reducible rfl
 try simp only [Act.put,List.setIfInBounds_toArray,List.set_cons_zero,List.set_cons_succ]
 refine wpAnyH_done (by kernel_rfl) ?_ _
 by_cases h0:r1.2.1=0
 ·have h0b:(r1.2.1 != 0)=false:=by simp [h0]
  have H0:=dq h0
  obtain ⟨gp',pb,pd,hpe,hpc,hpB⟩:=(HPS.out _ HS2.out.kept).at (k:=i) HIL.out
  injection hpe with hpe;injection hpe with hpe
  subst hpe
  rw [HPP.out] at hpc hpB
  have hple:=hpB.le
  have Z:=zsF sa pb sc pd c pp W2 HC2.out hpB
  rw [HCL.out] at Z
  generalize hpl:pp.length=pl at hpc hple Z
  have HZ:=dq Z
  have i4:(0:Int)≤(i:Int):=by omega
  have i5:(i:Int)<(i:Int)+1:=by omega
  clear Z hpB hpl h0
  go_wp2_with (fail)
  refine HZ.out.mono ?_
  clear HZ hpc
  rintro e W3 ⟨a3,c3,rfl,B3,_,b3⟩
  have b3d:Below W2.heap.size W2 W3.drew:=zff b3
  have HS4:=dq (HS2.out.below b3d)
  have HP4:=dq (HP2.out.below b3d)
  have HX4:Hid (Lies W3.drew gx 128 [.slice ca n1 cc,.slice la n2 lc,.slice wa n3 wc]):=dq (HX2.out.below b3d HX2.out.lt)
  have HK4:Hid (Kept (SX mp gs gm qa) W W3.drew):=dq (HK2.out.trans (Y:=fun _=>False) (Kept.of_below b3d) (fun _ _ e=>e.elim))
  have HS3:=dq (HS2.out.below b3)
  have HK3:Hid (Kept (SX mp gs gm qa) W W3):=dq (HK2.out.trans (Y:=fun _=>False) (Kept.of_below b3) (fun _ _ e=>e.elim))
  have hl3:=B3.le
  have HB4:Hid (Bag W3.drew a3 c3 (zbp c pp)):=dq (B3.below (⟨rfl,rfl,rfl,Nat.le_refl _,fun _ _=>rfl⟩:Below W3.heap.size W3 W3.drew))
  clear B3 b3 b3d HS2 HP2 HX2 HK2 HC2
  generalize hok:zaz c pp=ok at HEE HAA HIH2 ⊢
  cases ok with
  | false=>
   have HF:Hid (zee w0 mp gs gm bv lv k0 qa W r (.returned (.int .i64 3)) W3):=dq (by
    rw [HEE.out,if_pos H0.out,if_neg (by simp)]
    exact ⟨rfl,qa2,qc2,HS3.out,HK3.out,HF2.out⟩)
   generalize (zbp c pp).length=al at hl3 ⊢
   go_wp2
   go_ret
   exact HF.out
  | true=>
   have HNX4:Hid (¬SX mp gs gm qa2 gx):=dq (fun e=>by
    have hgl:=HX4.out.lt
    rcases e with e | e | e | e
    ·exact HNX.out (.inl e)
    ·exact HNX.out (.inr (.inl e))
    ·exact HNX.out (.inr (.inr (.inl e)))
    ·rcases HF2.out _ e with h | h
     ·exact HNX.out (.inr (.inr (.inr h)))
     ·exact HN2Q.out e)
   have hs:=HAA.out rfl
   rw [hs] at HB4 hl3 ⊢
   obtain ⟨r2,hr2⟩:∃ r2,r2=chGo X b x i (addT c pp) r1.1 r1.2.2:=⟨_,rfl⟩
   have Z:=HIH2.out H0.out rfl _ qa2 qc2 a3 c3 HS4.out HP4.out HB4.out
   rw [←hr2] at Z
   have HR2:Hid (r=r2):=dq (by rw [HEE.out,if_pos H0.out,if_pos rfl,hr2])
   generalize (addT c pp).length=al at hl3 Z ⊢
   have HZ:=dq Z
   clear Z hr2 hs
   go_upto_region 10 with (fail)
   have bd:=HX4.out
   refine wp_region_held_drew (S:=fun V=>Lies V gx 128 [.slice ca n1 cc,.slice la n2 lc,.slice wa n3 wc]) (by kernel_rfl) bd (fun hHeld=>?_)
   clear hHeld
   refine wpAnyH_take (i:=0) (oi:=⟨some 44,.move (.tmp 0),160,"search.go:93",#[],none⟩) (v:=?_) rfl (by kernel_rfl) (by kernel_rfl) (by kernel_rfl) (fun _ _ _ h=>h) (Or.inl ⟨by rfl,?_⟩) bd ?_
   rotate_left
   ·intro w hSw
    go_simp
    try with_reducible rfl
   try simp only [Act.put,List.setIfInBounds_toArray,List.set_cons_zero,List.set_cons_succ]
   refine wpAnyH_take (i:=1) (oi:=⟨some 45,.load 128 (.tmp 5),128,"search.go:93",#[],none⟩) (v:=?_) rfl (by kernel_rfl) (by kernel_rfl) (by kernel_rfl) (fun _ _ _ h=>h) (Or.inl ⟨by rfl,?_⟩) bd ?_
   rotate_left
   ·intro w hSw
    have y0:=hSw.cell 0
    have y1:=hSw.cell 1
    have y2:=hSw.cell 2
    simp only [List.getElem?_cons_zero,List.getElem?_cons_succ] at y0 y1 y2
    go_simp
    try with_reducible rfl
   try simp only [Act.put,List.setIfInBounds_toArray,List.set_cons_zero,List.set_cons_succ]
   refine wpAnyH_take (i:=2) (oi:=⟨some 46,.move (.tmp 11),31,"search.go:93",#[],none⟩) (v:=?_) rfl (by kernel_rfl) (by kernel_rfl) (by kernel_rfl) (fun _ _ _ h=>h) (Or.inl ⟨by rfl,?_⟩) bd ?_
   rotate_left
   ·intro w hSw
    go_simp
    try with_reducible rfl
   try simp only [Act.put,List.setIfInBounds_toArray,List.set_cons_zero,List.set_cons_succ]
   refine wpAnyH_take (i:=3) (oi:=⟨some 47,.move (.tmp 3),51,"search.go:93",#[],none⟩) (v:=?_) rfl (by kernel_rfl) (by kernel_rfl) (by kernel_rfl) (fun _ _ _ h=>h) (Or.inl ⟨by rfl,?_⟩) bd ?_
   rotate_left
   ·intro w hSw
    go_simp
    try with_reducible rfl
   try simp only [Act.put,List.setIfInBounds_toArray,List.set_cons_zero,List.set_cons_succ]
   refine wpAnyH_take (i:=4) (oi:=⟨some 48,.move (.tmp 9),3,"search.go:93",#[],none⟩) (v:=?_) rfl (by kernel_rfl) (by kernel_rfl) (by kernel_rfl) (fun _ _ _ h=>h) (Or.inl ⟨by rfl,?_⟩) bd ?_
   rotate_left
   ·intro w hSw
    go_simp
    try with_reducible rfl
   try simp only [Act.put,List.setIfInBounds_toArray,List.set_cons_zero,List.set_cons_succ]
   refine wpAnyH_take (i:=5) (oi:=⟨some 49,.slice 51 (.tmp 47) none (some (.tmp 48)) none,51,"search.go:93",#[⟨3,.data⟩,⟨4,.data⟩],none⟩) (v:=?_) rfl (by kernel_rfl) (by kernel_rfl) (by kernel_rfl) (fun _ _ _ h=>h) (Or.inl ⟨by rfl,?_⟩) bd ?_
   rotate_left
   ·intro w hSw
    go_simp
    try with_reducible rfl
   try simp only [Act.put,List.setIfInBounds_toArray,List.set_cons_zero,List.set_cons_succ]
   refine wpAnyH_ready (rs:=[6]) (by kernel_rfl) (by simp) ?_
   refine AllReadyH.cons (o:=⟨some 50,.call {callee:=.value (.func 118),args:=#[.tmp 44,.tmp 45,.tmp 46,.tmp 49],argTypes:=#[160,128,31,51]},34,"search.go:93",#[⟨0,.data⟩,⟨1,.data⟩,⟨2,.data⟩,⟨5,.data⟩],none⟩) rfl (fun K hK=>?_) AllReadyH.nil
   have Z:=HZ.out
   go_simp
   refine Z.mono ?_
   clear Z HZ
   rintro e W5 ⟨rfl,qa5,qc5,s5,k5,f5⟩
   have b5:=HX4.out.kept k5 HNX4.out
   have HF:Hid (zee w0 mp gs gm bv lv k0 qa W r (.returned (.int .i64 r2.2.1)) W5):=dq (by
    rw [HR2.out]
    exact ⟨rfl,qa5,qc5,s5,HK4.out.trans k5 (zt0 HK4.out HF2.out),fun g e=>(f5 g e).elim (fun h=>(HF2.out g h).imp id (fun h=>h)) (fun h=>.inr (Nat.le_trans HK4.out.size h))⟩)
   clear s5 k5 f5
   generalize r2.2.1=er at HF ⊢
   go_wp2_with (fail)
   refine hK.out _ _ b5 (fun hHeld=>?_)
   clear hK K hHeld
   try simp only [Act.put,List.setIfInBounds_toArray,List.set_cons_zero,List.set_cons_succ]
   refine wpAnyH_take (i:=7) (oi:=⟨some 8,.assign (.tmp 50),34,"search.go:93",#[⟨6,.data⟩,⟨6,.chain⟩,⟨0,.phase⟩,⟨1,.phase⟩,⟨2,.phase⟩,⟨3,.phase⟩,⟨4,.phase⟩,⟨5,.phase⟩,⟨6,.phase⟩],none⟩) (v:=?_) rfl (by kernel_rfl) (by kernel_rfl) (by kernel_rfl) (fun _ _ _ h=>h) (Or.inl ⟨by rfl,?_⟩) b5 ?_
   rotate_left
   ·intro w hSw
    go_simp
    try with_reducible rfl
   try simp only [Act.put,List.setIfInBounds_toArray,List.set_cons_zero,List.set_cons_succ]
   refine wpAnyH_done (by kernel_rfl) ?_ _
   go_wp2
   go_ret
   exact HF.out
 ·have h0b:(r1.2.1 != 0)=true:=by simp [h0]
  have HF:Hid (zee w0 mp gs gm bv lv k0 qa W r (.returned (.int .i64 r1.2.1)) W2):=dq (by
   rw [HEE.out,if_neg h0]
   exact ⟨rfl,qa2,qc2,HS2.out,HK2.out,HF2.out⟩)
  generalize r1.2.1=er at HF h0 h0b ⊢
  go_wp2
  go_ret
  exact HF.out
end Go.Proofs.YtmnkjekjknhhjaaGreatDoor
namespace Go.Proofs.YtmnkjekjknhhjaaGreatDoor
open Go.ChangeShapes Go.WideShapes Go.ChangeAt Go.RowKit Go.Maps
theorem zdZ:∀ (ps:List (List Int)) (c:List Int),chosenL c ps 0=some c
 | [],_=>rfl
 | p::r,c=>by
  unfold chosenL
  rw [if_neg (by decide)]
  exact zdZ r c
def behP (X:Lin) (b:List Lin) (q:Pr) (Q:List Pr) (M:Mr):List Pr×Int×Mr:=if 20<X.ps.length∨60≤q.n then (Q,3,M) else chGo X b q X.ps.length q.c Q M
set_option maxRecDepth 100000 in
set_option maxHeartbeats 4000000 in
theorem zsd {w0:World} {mp:Option Addr} {M:Mr} {gs gm lv k0:Nat} {ba:Option Addr} {bc:Nat} {b:List Lin} {qa:Option Addr} {qc:Nat} {Q:List Pr} (X:Lin) (W:World) (S:SqAt w0 mp M gs gm (.slice ba b.length bc) lv qa qc (Q.drop k0) (Q.map zhw) W)
  (pa:Option Addr) (pc:Nat) (x:Pr) (hn:x.n=lv) (hps:∀ V,MK mp w0 V→Bags V pa pc X.ps) (E:lv≤59→ChEnv w0 mp b ba bc X pa pc lv x) (ca:Option Addr) (cc:Nat) (la:Option Addr) (lc:Nat) (wa:Option Addr) (wc:Nat) (hp:QbAt W ⟨ca,cc,la,lc,wa,wc,x⟩)
  (hQ:∀ z∈Q,PairR z) (hlen:(behP X b x Q M).1.length≤1000000000) (hk0:k0≤Q.length) :
  Calls Tryz.prog 86 #[.pointer (some ⟨gs,0,none⟩),.agg #[.slice ca x.c.length cc,.slice la x.l.length lc,.slice wa x.w.length wc],.slice pa X.ps.length pc] W (zee w0 mp gs gm (.slice ba b.length bc) lv k0 qa W (behP X b x Q M)):=by
 have bb:=below_alloc W (.cells #[.slice ca x.c.length cc,.slice la x.l.length lc,.slice wa x.w.length wc] 128)
 have HS1:=dq (S.below bb)
 have HX1:=dq (Lies.new W 128 [.slice ca x.c.length cc,.slice la x.l.length lc,.slice wa x.w.length wc])
 have HK1:Hid (Kept (SX mp gs gm qa) W (W.alloc (.cells #[.slice ca x.c.length cc,.slice la x.l.length lc,.slice wa x.w.length wc] 128))):=dq (Kept.of_below bb)
 have hlp:=(hps _ S.kept).le
 have HLIM:Hid (20<X.ps.length∨60≤lv→behP X b x Q M=(Q,3,M)):=dq (fun h=>by unfold behP;rw [hn,if_pos h])
 have HGO:Hid (¬(20<X.ps.length∨60≤lv)→behP X b x Q M=chGo X b x X.ps.length x.c Q M):=dq (fun h=>by unfold behP;rw [hn,if_neg h])
 have HZ:Hid (¬(20<X.ps.length∨60≤lv)→Calls Tryz.prog 118 #[.pointer (some ⟨gs,0,none⟩),.agg #[.slice ca x.c.length cc,.slice la x.l.length lc,.slice wa x.w.length wc],.slice ca x.c.length cc,.slice pa X.ps.length pc] (W.alloc (.cells #[.slice ca x.c.length cc,.slice la x.l.length lc,.slice wa x.w.length wc] 128)) (zee w0 mp gs gm (.slice ba b.length bc) lv k0 qa (W.alloc (.cells #[.slice ca x.c.length cc,.slice la x.l.length lc,.slice wa x.w.length wc] 128)) (behP X b x Q M))):=dq (fun h=>by
  have E:=E (by omega)
  have hg:behP X b x Q M=chGo X b x X.ps.length x.c Q M:=by unfold behP;rw [hn,if_neg h]
  rw [hg] at hlen ⊢
  have hs:∀ i,zoc w0 mp gs gm b ba bc X pa pc lv k0 x ca cc la lc wa wc i:=fun i=>by
   induction i with
   | zero=>exact ziL E ca cc la lc wa wc
   | succ i ih=>exact ziM E ca cc la lc wa wc i ih
  exact hs _ _ M Q qa qc ca cc x.c 0 (S.below bb) (hp.below bb) (hp.c.below bb) (zdZ X.ps x.c) (Nat.zero_mod _) (Nat.le_refl _) hQ hlen hk0)
 generalize behP X b x Q M=r at HLIM HGO HZ ⊢
 generalize hnp:X.ps.length=np at hlp HLIM HGO HZ ⊢
 generalize hn1:x.c.length=n1 at HX1 HK1 HZ ⊢
 generalize hn2:x.l.length=n2 at HX1 HK1 HZ ⊢
 generalize hn3:x.w.length=n3 at HX1 HK1 HZ ⊢
 rw [hn1,hn2,hn3] at HS1
 generalize (Value.slice ba b.length bc)=bv at HS1 HZ ⊢
 clear bb S hp hps hQ hlen hk0 hn1 hn2 hn3 hnp E HGO
 have e0:=HX1.out.cell 0
 have e1:=HX1.out.cell 1
 have e2:=HX1.out.cell 2
 simp only [List.getElem?_cons_zero,List.getElem?_cons_succ] at e0 e1 e2
 have s2:=HS1.out.box.cell 2
 simp only [zaE,List.getElem?_cons_zero,List.getElem?_cons_succ] at s2
 have HF3:Hid (20<np∨60≤lv→zee w0 mp gs gm bv lv k0 qa W r (.returned (.int .i64 3)) (W.alloc (.cells #[.slice ca n1 cc,.slice la n2 lc,.slice wa n3 wc] 128))):=dq (fun h=>by
  rw [HLIM.out h]
  exact ⟨rfl,qa,qc,HS1.out,HK1.out,fun g e=>.inl e⟩)
 by_cases h20:20<np
 ·have hb20:decide ((20:Int)<(np:Int))=true:=by simp;omega
  have HF:=dq (HF3.out (.inl h20))
  go_enter Tryz.func86,Tryz.ntmps86
  go_wp2
  go_ret
  exact HF.out
 ·have hb20:decide ((20:Int)<(np:Int))=false:=by simp;omega
  by_cases h60:60≤lv
  ·have hb60:decide ((60:Int)≤(lv:Int))=true:=by simp;omega
   have HF:=dq (HF3.out (.inr h60))
   go_enter Tryz.func86,Tryz.ntmps86
   go_wp2
   go_ret
   exact HF.out
  ·have hb60:decide ((60:Int)≤(lv:Int))=false:=by simp;omega
   have HZ2:=dq (HZ.out (by omega))
   clear HZ HF3
   go_enter Tryz.func86,Tryz.ntmps86
   go_wp2_with (fail)
   refine HZ2.out.mono ?_
   clear HZ2
   rintro e W2 ⟨rfl,qa2,qc2,s2',k2,f2⟩
   have HF:Hid (zee w0 mp gs gm bv lv k0 qa W r (.returned (.int .i64 r.2.1)) W2):=dq
    ⟨rfl,qa2,qc2,s2',HK1.out.trans k2 (fun i hi e=>e),fun g e=>(f2 g e).imp id (fun h=>Nat.le_trans HK1.out.size h)⟩
   clear s2' k2 f2
   generalize r.2.1=er at HF ⊢
   go_wp2
   go_ret
   exact HF.out
theorem zkV (x:Lin) (b:List Lin) (q:Pr):∀ (k m:Nat) (Q:List Pr) (M:Mr),∃ R,(zal x b q k m Q M).1=Q++R∧∀ z∈R,z.n=q.n+1
 | 0,m,Q,M=>⟨[],by simp [zal],fun z hz=>by simp at hz⟩
 | k+1,m,Q,M=>by
  cases h:chosenL q.c x.ps m with
  | none=>exact ⟨[],by rw [zcf h];simp,fun z hz=>by simp at hz⟩
  | some c=>
   by_cases h1:(nextM M b q.l (zao c)).2.1=0
   ·by_cases h2:zkP Q (halfL c) (nextM M b q.l (zao c)).1=true
    ·rw [zdt h h1 h2]
     exact zkV x b q k (m+1) Q _
    ·by_cases h3:(spendM (nextM M b q.l (zao c)).2.2 1).1=true
     ·rw [zdu h h1 h2 h3]
      obtain ⟨R,e,hR⟩:=zkV x b q k (m+1) (Q++[⟨halfL c,(nextM M b q.l (zao c)).1,zaf q.w (zao c) q.n,q.n+1⟩]) (spendM (nextM M b q.l (zao c)).2.2 1).2
      exact ⟨_::R,by rw [e,List.append_assoc];rfl,fun z hz=>by
       rcases List.mem_cons.1 hz with rfl | hz
       ·rfl
       ·exact hR z hz⟩
     ·exact ⟨[],by rw [zbB h h1 h2 h3];simp,fun z hz=>by simp at hz⟩
   ·exact ⟨[],by rw [zcA h h1];simp,fun z hz=>by simp at hz⟩
structure Goes (X:Lin) (b:List Lin) (G:Pr→Prop):Prop where
 base:zaa X.base=true
 rp:∀ p∈X.ps,zaa p=true
 first:G (first X b)
 ok:∀ z,G z→PairR z∧zez b z.l≤100000000000∧zaa z.w=true∧(∀ t,z.w.getD t 0<2 ^ z.n)∧z.n≤60
 step:∀ q m c M,G q→q.n≤59→chosenL q.c X.ps m=some c→(nextM M b q.l (zao c)).2.1=0→G ⟨halfL c,(nextM M b q.l (zao c)).1,zaf q.w (zao c) q.n,q.n+1⟩
theorem zhl {x:Lin} {b:List Lin}:∀ (f k:Nat) (Q:List Pr) (M:Mr) (r:Sr),zag x b f k Q M=some r→Q.length≤r.q.length
 | 0,_,_,_,_,h=>by simp [zag] at h
 | f+1,k,Q,M,r,h=>by
  unfold zag at h
  split at h
  ·split at h
   ·injection h with h;subst h;exact Nat.le_refl _
   ·split at h
    ·injection h with h;subst h;exact Nat.le_refl _
    ·split at h
     ·exact Nat.le_trans (zgC ..) (zhl f _ _ _ r h)
     ·injection h with h;subst h;exact zgC ..
  ·injection h with h;subst h;exact Nat.le_refl _
theorem zoW {x:Lin} {b:List Lin} {f k:Nat} {Q:List Pr} {M:Mr} {r:Sr} (h:zag x b f k Q M=some r) (hk:¬k<Q.length):r=⟨true,[],0,M,Q⟩:=by
 cases f with
 | zero=>simp [zag] at h
 | succ f=>unfold zag at h;rw [if_neg hk] at h;injection h with h;exact h.symm
theorem zqU {x:Lin} {b:List Lin} {f k:Nat} {Q:List Pr} {M:Mr} {r:Sr} (h:zag x b f k Q M=some r) (hk:k<Q.length) (h1:(prAt Q k).c=[]∧finalL (prAt Q k).l=false):r=⟨false,(prAt Q k).w,0,M,Q⟩:=by
 cases f with
 | zero=>simp [zag] at h
 | succ f=>unfold zag at h;rw [if_pos hk,if_pos h1] at h;injection h with h;exact h.symm
theorem zqV {x:Lin} {b:List Lin} {f k:Nat} {Q:List Pr} {M:Mr} {r:Sr} (hp:∀ p∈x.ps,zaa p=true) (hc:zaa (prAt Q k).c=true) (h:zag x b f k Q M=some r) (hk:k<Q.length) (h1:¬((prAt Q k).c=[]∧finalL (prAt Q k).l=false)) :
  (behP x b (prAt Q k) Q M).1.length≤r.q.length∧(∃ R,(behP x b (prAt Q k) Q M).1=Q++R∧∀ z∈R,z.n=(prAt Q k).n+1)∧
  ((behP x b (prAt Q k) Q M).2.1=0→(prAt Q k).n≤59∧∃ g,zag x b g (k+1) (behP x b (prAt Q k) Q M).1 (behP x b (prAt Q k) Q M).2.2=some r)∧
  ((behP x b (prAt Q k) Q M).2.1≠0→r=⟨false,[],(behP x b (prAt Q k) Q M).2.1,(behP x b (prAt Q k) Q M).2.2,(behP x b (prAt Q k) Q M).1⟩):=by
 cases f with
 | zero=>simp [zag] at h
 | succ f=>
  unfold zag at h
  rw [if_pos hk,if_neg h1] at h
  unfold behP
  by_cases hl:20<x.ps.length∨60≤(prAt Q k).n
  ·rw [if_pos hl] at h ⊢
   injection h with h
   subst h
   exact ⟨Nat.le_refl _,⟨[],by simp,fun z hz=>by simp at hz⟩,fun e=>absurd e (by show ¬(3:Int)=0;decide),fun _=>rfl⟩
  ·rw [if_neg hl] at h ⊢
   rw [zgV hp hc x.ps.length 0 (prAt Q k).c Q M (Nat.le_refl _) (Nat.zero_mod _) (zdZ x.ps _)]
   have hnew:=zkV x b (prAt Q k) (2 ^ x.ps.length) 0 Q M
   by_cases h0:(zal x b (prAt Q k) (2 ^ x.ps.length) 0 Q M).2.1=0
   ·rw [if_pos h0] at h
    exact ⟨zhl _ _ _ _ _ h,hnew,fun _=>⟨by omega,f,h⟩,fun e=>absurd h0 e⟩
   ·rw [if_neg h0] at h
    injection h with h
    subst h
    exact ⟨Nat.le_refl _,hnew,fun e=>absurd e h0,fun _=>rfl⟩
theorem zt1 {x:Lin} {b:List Lin} {q:Pr} {Q:List Pr} {M:Mr} {G:Pr→Prop} (g:Goes x b G) (hq:G q) (hQ:∀ z∈Q,G z):∀ z∈(behP x b q Q M).1,G z:=by
 unfold behP
 split
 ·exact hQ
 ·next hl=>
  rw [zgV g.rp (g.ok q hq).1.c x.ps.length 0 q.c Q M (Nat.le_refl _) (Nat.zero_mod _) (zdZ x.ps _)]
  exact zhM (fun m c M hc h0=>g.step q m c M hq (by omega) hc h0) _ _ _ _ hQ
end Go.Proofs.YtmnkjekjknhhjaaGreatDoor
namespace Go.Proofs.YtmnkjekjknhhjaaGreatDoor
open Go.ChangeShapes Go.WideShapes Go.ChangeAt Go.RowKit Go.Maps
def zt4 (w:World) (p:Addr):Nat:=match w.cell? p with
 | some (.int _ n)=>n.toNat
 | _=>0
section
variable {w0 W:World} {mp:Option Addr} {M:Mr} {gs gm lv:Nat} {bv:Value} {qa:Option Addr} {qc:Nat} {P:List Pr} {T:List (List UInt8)}
theorem SqAt.gsFar (h:SqAt w0 mp M gs gm bv lv qa qc P T W):zsh (fun g=>g=gs) W:=⟨fun g cs l e=>by subst e;exact l.other h.box (by decide) rfl,fun g cs l e=>by subst e;exact l.other h.box (by decide) rfl⟩
theorem SqAt.qaGs (h:SqAt w0 mp M gs gm bv lv qa qc P T W):∀ g,qa=some ⟨g,0,none⟩→¬g=gs:=fun g e e2=>by
 obtain ⟨cs,l2⟩:=h.prs.lies e
 subst e2
 exact h.box.other l2 (by decide) rfl
theorem SqAt.clear (h:SqAt w0 mp M gs gm bv lv qa qc P T W):SqAt w0 mp M gs gm bv lv none 0 [] T (W.setCell ⟨gs,3,none⟩ (.slice none 0 0))∧Qrs (W.setCell ⟨gs,3,none⟩ (.slice none 0 0)) qa qc P:=by
 have k:Kept (fun g=>g=gs) W (W.setCell ⟨gs,3,none⟩ (.slice none 0 0)):=(Kept.refl (fun g=>g=gs) W).setCell (p:=⟨gs,3,none⟩) (fun _=>rfl) _
 refine ⟨⟨h.meter.kept k (fun g e e2=>by have:=h.old _ e;have:=h.hs;omega),h.old,h.kept.trans k (fun i hi e=>by have:=h.hs;omega),h.map.kept k (fun e=>h.map.cells h.box e.symm),h.hm,?_,h.hs,⟨[],rfl,Qbs.nil _⟩,From.none _⟩,h.prs.far k h.gsFar h.qaGs⟩
 have:=h.box.set 3 (.slice none 0 0)
 simpa [zaE] using this
theorem SqAt.letter (h:SqAt w0 mp M gs gm bv lv qa qc P T W):SqAt w0 mp M gs gm bv (lv+1) qa qc P T (W.setCell ⟨gs,2,none⟩ (.int .i64 ((lv:Int)+1)))∧Kept (fun g=>g=gs) W (W.setCell ⟨gs,2,none⟩ (.int .i64 ((lv:Int)+1))):=by
 have k:Kept (fun g=>g=gs) W (W.setCell ⟨gs,2,none⟩ (.int .i64 ((lv:Int)+1))):=(Kept.refl (fun g=>g=gs) W).setCell (p:=⟨gs,2,none⟩) (fun _=>rfl) _
 refine ⟨⟨h.meter.kept k (fun g e e2=>by have:=h.old _ e;have:=h.hs;omega),h.old,h.kept.trans k (fun i hi e=>by have:=h.hs;omega),h.map.kept k (fun e=>h.map.cells h.box e.symm),h.hm,?_,h.hs,h.prs.far k h.gsFar h.qaGs,h.new⟩,k⟩
 have:=h.box.set 2 (.int .i64 ((lv:Int)+1))
 simpa [zaE] using this
theorem SqAt.count (h:SqAt w0 mp M gs gm bv lv qa qc P T W):zt4 W ⟨gs,2,none⟩=lv:=by
 have:=h.box.cell 2
 simp only [zaE,List.getElem?_cons_zero,List.getElem?_cons_succ] at this
 unfold zt4
 rw [this]
 simp
end
def WiP (mp:Option Addr) (r:Sr) (w:World) (e:Ending) (w':World):Prop:=
 ∃ a c,e=.returned (.tuple #[.bool r.ok,.slice a r.w.length c,.int .i64 r.e])∧Bag w' a c r.w∧MrAt w' 72 mp r.m∧MK mp w w'
set_option maxRecDepth 100000 in
set_option maxHeartbeats 8000000 in
theorem zse {mp:Option Addr} {M:Mr} (w:World) (HM0:MrAt w 72 mp M) (htab:zt7 mp w) (xa:Option Addr) (xc:Nat) (pa:Option Addr) (pc:Nat) (X:Lin) (HX0:Bag w xa xc X.base) (HP0:Bags w pa pc X.ps) (ba:Option Addr) (bc:Nat) (b:List Lin) (HB0:Lins w ba bc b) (hb3:b.length≤1000000)
  (G:Pr→Prop) (hG:Goes X b G) (f:Nat) (r:Sr) (hr:zbX f X b M=some r) (hlen:r.q.length≤1000000000) :
  Calls Tryz.prog 52 #[.pointer mp,.agg #[.slice xa X.base.length xc,.slice pa X.ps.length pc],.slice ba b.length bc] w (WiP mp r w):=by
 have hlx:=HX0.le
 have hlp:=HP0.le
 have hlb:=HB0.le
 have HBX:Hid (∀ V,MK mp w V→Bag V xa xc X.base):=dq (fun V k=>zm0 HM0 k HX0)
 have HPS:Hid (∀ V,MK mp w V→Bags V pa pc X.ps):=dq (fun V k=>by
  obtain ⟨ps,e,Q⟩:=HP0
  exact ⟨ps,e,Q.row.kept k (fun g e=>zcD HM0 (by decide) Q.row e),fun p hp=>(Q.each p hp).kept k (fun g e=>zaV HM0 (by decide) (Q.each p hp) e)⟩)
 have HBL:Hid (∀ V,MK mp w V→Lins V ba bc b):=dq (fun V k=>Lins.mk HM0 mtP k HB0)
 have HOLD:Hid (∀ g,mp=some ⟨g,0,none⟩→g<w.heap.size):=dq (fun g e=>HM0.lt e)
 have HMM:=dq HM0
 have HTAB:=dq htab
 have HG:=dq hG
 have HR:=dq hr
 have HLR:=dq hlen
 have HB3:=dq hb3
 generalize hn0:X.base.length=n0 at hlx ⊢
 generalize hnp:X.ps.length=np at hlp ⊢
 generalize hnb:b.length=nb at hlb ⊢
 have HN0:=dq hn0
 have HNP:=dq hnp
 have HNB:=dq hnb
 have b1:=below_alloc w (.cells #[.slice xa n0 xc,.slice pa np pc] 53)
 have b2:=below_alloc (w.alloc (.cells #[.slice xa n0 xc,.slice pa np pc] 53)) (.map #[] 0)
 have b3:=below_alloc ((w.alloc (.cells #[.slice xa n0 xc,.slice pa np pc] 53)).alloc (.map #[] 0)) (.cells #[.pointer mp,.slice ba nb bc,.int .i64 0,.slice none 0 0,.map (some (w.heap.size+1))] 125)
 have hmap:MapU ((w.alloc (.cells #[.slice xa n0 xc,.slice pa np pc] 53)).alloc (.map #[] 0)) (w.heap.size+1) []:=by
  have:=MapU.new (w.alloc (.cells #[.slice xa n0 xc,.slice pa np pc] 53));simpa using this
 have hst:SqAt w mp M (w.heap.size+1+1) (w.heap.size+1) (.slice ba nb bc) 0 none 0 (([]:List Pr).drop 0) (([]:List Pr).map zhw) (((w.alloc (.cells #[.slice xa n0 xc,.slice pa np pc] 53)).alloc (.map #[] 0)).alloc (.cells #[.pointer mp,.slice ba nb bc,.int .i64 0,.slice none 0 0,.map (some (w.heap.size+1))] 125)):=
  ⟨((HM0.below b1).below b2).below b3,HOLD.out,((Kept.refl _ _).alloc _ |>.alloc _) |>.alloc _,hmap.kept (X:=fun _=>False) (Kept.of_below b3) (fun e=>e),by omega,(by have:=Lies.new ((w.alloc (.cells #[.slice xa n0 xc,.slice pa np pc] 53)).alloc (.map #[] 0)) 125 [.pointer mp,.slice ba nb bc,.int .i64 0,.slice none 0 0,.map (some (w.heap.size+1))];simpa [zaE] using this),by omega,⟨[],rfl,Qbs.nil _⟩,From.none _⟩
 have HST:=dq hst
 have HL0:Hid (Lies (((w.alloc (.cells #[.slice xa n0 xc,.slice pa np pc] 53)).alloc (.map #[] 0)).alloc (.cells #[.pointer mp,.slice ba nb bc,.int .i64 0,.slice none 0 0,.map (some (w.heap.size+1))] 125)) w.heap.size 53 [.slice xa n0 xc,.slice pa np pc]):=dq (((Lies.new w _ _).below b2 (by simp)).below b3 (by simp;omega))
 clear b1 b2 b3 hst hmap HM0 htab HX0 HP0 HB0 hb3 hG hr hlen hn0 hnp hnb
 have hmm:=@run_makeMap Tryz.prog
 go_enter Tryz.func52,Tryz.ntmps52
 go_upto_region 2 with (fail)
 clear hmm
 generalize ((w.alloc (.cells #[.slice xa n0 xc,.slice pa np pc] 53)).alloc (.map #[] 0)).alloc (.cells #[.pointer mp,.slice ba nb bc,.int .i64 0,.slice none 0 0,.map (some (w.heap.size+1))] 125)=W1 at HST HL0 ⊢
 obtain ⟨gs,hgs⟩:∃ gs,gs=w.heap.size+1+1:=⟨_,rfl⟩
 obtain ⟨gm,hgm⟩:∃ gm,gm=w.heap.size+1:=⟨_,rfl⟩
 obtain ⟨gl,hgl⟩:∃ gl,gl=w.heap.size:=⟨_,rfl⟩
 rw [←hgs,←hgm] at HST
 rw [←hgl] at HL0
 rw [←hgs,←hgm,←hgl]
 have HNL:Hid (∀ q,(∀ g,q=some ⟨g,0,none⟩→g≠gl)→¬SX mp gs gm q gl):=dq (fun q hq e=>by
  rcases e with e | e | e | e
  ·have:=HOLD.out _ e;omega
  ·omega
  ·omega
  ·exact hq gl e rfl)
 have HGS:Hid (gl≠gs):=dq (by omega)
 have HOLD2:=HOLD
 have bd0:Below W1.heap.size W1 W1.drew:=⟨rfl,rfl,rfl,Nat.le_refl _,fun _ _=>rfl⟩
 have HS1:=dq (HST.out.below bd0)
 have HL1:=dq (HL0.out.below bd0 HL0.out.lt)
 have bd:=HL1.out
 have Z:=zqs ba bc b W1.drew (HBL.out _ HS1.out.kept) HB3.out
 rw [HNB.out] at Z
 have HZS:=dq Z
 obtain ⟨ad,had⟩:∃ ad,ad=zmk (first X b) [] M:=⟨_,rfl⟩
 have HAD:=dq had
 rw [←HNB.out] at HS1
 clear Z bd0 HST HL0 hgs hgm hgl had
 refine wp_region_held_drew (S:=fun V=>Lies V gl 53 [.slice xa n0 xc,.slice pa np pc]) (by kernel_rfl) bd (fun hHeld=>?_)
 clear hHeld
 refine wpAnyH_take (i:=0) (oi:=⟨some 17,.fieldAddr 53 (.tmp 4) 0,0,"search.go:38",#[],none⟩) (v:=?_) rfl (by kernel_rfl) (by kernel_rfl) (by kernel_rfl) (fun _ _ _ h=>h) (Or.inl ⟨by rfl,?_⟩) bd ?_
 rotate_left
 ·intro w hSw
  go_simp
  try with_reducible rfl
 try simp only [Act.put,List.setIfInBounds_toArray,List.set_cons_zero,List.set_cons_succ]
 refine wpAnyH_take (i:=1) (oi:=⟨some 18,.load 31 (.tmp 17),31,"search.go:38",#[⟨0,.data⟩],none⟩) (v:=?_) rfl (by kernel_rfl) (by kernel_rfl) (by kernel_rfl) (fun _ _ _ h=>h) (Or.inl ⟨by rfl,?_⟩) bd ?_
 rotate_left
 ·intro w hSw
  have y0:=hSw.cell 0
  simp only [List.getElem?_cons_zero] at y0
  go_simp
  try with_reducible rfl
 try simp only [Act.put,List.setIfInBounds_toArray,List.set_cons_zero,List.set_cons_succ]
 refine wpAnyH_take (i:=2) (oi:=⟨some 19,.move (.tmp 2),24,"search.go:38",#[],none⟩) (v:=?_) rfl (by kernel_rfl) (by kernel_rfl) (by kernel_rfl) (fun _ _ _ h=>h) (Or.inl ⟨by rfl,?_⟩) bd ?_
 rotate_left
 ·intro w hSw
  go_simp
  try with_reducible rfl
 try simp only [Act.put,List.setIfInBounds_toArray,List.set_cons_zero,List.set_cons_succ]
 refine wpAnyH_ready (rs:=[3]) (by kernel_rfl) (by simp) ?_
 refine AllReadyH.cons (o:=⟨some 20,.call {callee:=.value (.func 41),args:=#[.tmp 19],argTypes:=#[24]},77,"search.go:38",#[⟨2,.data⟩],none⟩) rfl (fun K hK=>?_) AllReadyH.nil
 have Z:=HZS.out
 go_simp
 refine Z.mono ?_
 clear Z HZS
 rintro e W2 ⟨a2,c2,rfl,I2,_,b2⟩
 have HI2:=dq I2
 have HS2:=dq (HS1.out.below b2)
 have HL2:=dq (HL1.out.below b2 HL1.out.lt)
 have hl2:=I2.le
 have bd2:=HL2.out
 generalize hsl:(startL b).length=sl at hl2 ⊢
 have HSL:=dq hsl
 clear I2 b2 hsl HS1 HL1
 go_wp2_with (fail)
 refine hK.out _ _ bd2 (fun hHeld=>?_)
 clear hK K hHeld
 try simp only [Act.put,List.setIfInBounds_toArray,List.set_cons_zero,List.set_cons_succ]
 refine wpAnyH_take (i:=4) (oi:=⟨some 21,.build 128 #[(0,.tmp 18),(1,.tmp 20)],128,"search.go:38",#[⟨1,.data⟩,⟨3,.data⟩],none⟩) (v:=?_) rfl (by kernel_rfl) (by kernel_rfl) (by kernel_rfl) (fun _ _ _ h=>h) (Or.inl ⟨by rfl,?_⟩) bd2 ?_
 rotate_left
 ·intro w hSw
  go_simp
  try with_reducible rfl
 try simp only [Act.put,List.setIfInBounds_toArray,List.set_cons_zero,List.set_cons_succ]
 refine wpAnyH_ready (rs:=[5]) (by kernel_rfl) (by simp) ?_
 refine AllReadyH.cons (o:=⟨some 22,.call {callee:=.value (.func 85),args:=#[.tmp 9,.tmp 21],argTypes:=#[125,128]},34,"search.go:38",#[⟨4,.data⟩,⟨3,.chain⟩],none⟩) rfl (fun K hK=>?_) AllReadyH.nil
 have Z:=zuK W2 HS2.out HTAB.out ⟨xa,xc,a2,c2,none,0,first X b⟩ ⟨HBX.out _ HS2.out.kept,HI2.out,Bag.nil _⟩ (HG.out.ok _ HG.out.first).1 (fun z hz=>by simp at hz) (by simp) (by simp)
 simp only at Z
 rw [←HAD.out] at Z
 simp only [first] at Z
 rw [HN0.out,HSL.out] at Z
 go_simp
 refine Z.mono ?_
 clear Z
 rintro e W3 ⟨rfl,qa3,qc3,s3,k3,f3⟩
 have HL3:=dq (HL2.out.kept k3 (HNL.out none (fun g e=>by cases e)))
 have bd3:=HL3.out
 have HS3:=dq s3
 clear s3 k3 f3 HS2 HI2 HL2
 go_wp2_with (fail)
 refine hK.out _ _ bd3 (fun hHeld=>?_)
 clear hK K hHeld
 try simp only [Act.put,List.setIfInBounds_toArray,List.set_cons_zero,List.set_cons_succ]
 refine wpAnyH_take (i:=6) (oi:=⟨some 8,.assign (.tmp 22),34,"search.go:38",#[⟨5,.data⟩,⟨5,.chain⟩,⟨0,.phase⟩,⟨1,.phase⟩,⟨2,.phase⟩,⟨3,.phase⟩,⟨4,.phase⟩,⟨5,.phase⟩],none⟩) (v:=?_) rfl (by kernel_rfl) (by kernel_rfl) (by kernel_rfl) (fun _ _ _ h=>h) (Or.inl ⟨by rfl,?_⟩) bd3 ?_
 rotate_left
 ·intro w hSw
  go_simp
  try with_reducible rfl
 try simp only [Act.put,List.setIfInBounds_toArray,List.set_cons_zero,List.set_cons_succ]
 refine wpAnyH_done (by kernel_rfl) ?_ _
 have had:=HAD.out
 unfold zmk at had
 rw [if_neg (by simp [zkP])] at had
 rw [HNB.out] at HS3
 by_cases hs:(spendM M 1).1=true
 ·rw [if_pos hs] at had
  subst had
  dsimp only at HS3 ⊢
  obtain ⟨M1,hM1⟩:∃ M1,M1=(spendM M 1).2:=⟨_,rfl⟩
  have HSG:Hid (∃ f,zag X b f 0 [first X b] M1=some r):=dq (by
   have h:=HR.out
   unfold zbX at h
   rw [if_pos hs,←hM1] at h
   exact ⟨f,h⟩)
  rw [←hM1] at HS3
  have HSW:Hid (SqAt w mp M1 gs gm (.slice ba nb bc) 0 qa3 qc3 ([first X b].drop 0) ([first X b].map zhw) W3):=HS3
  clear hs hM1 HR HAD HS3 HBX
  go_wp2
  go_loopw [8] (fun ev wr=>∃ (k0 lv:Nat) (qa:Option Addr) (qc:Nat) (Q:List Pr) (Mi:Mr),ev=.int .i64 0∧lv≤60∧k0≤Q.length∧Hid (SqAt w mp Mi gs gm (.slice ba nb bc) lv qa qc (Q.drop k0) (Q.map zhw) wr)∧Hid (Lies wr gl 53 [.slice xa n0 xc,.slice pa np pc])∧Hid (∀ z∈Q.drop k0,z.n=lv)∧Hid (∀ z∈Q,G z)∧Hid (∃ f,zag X b f k0 Q Mi=some r)) (fun _ wr=>61-zt4 wr ⟨gs,2,none⟩)
  case atStart=>exact ⟨0,0,qa3,qc3,[first X b],M1,rfl,by omega,by simp,HSW,HL3,dq (fun z hz=>by simp at hz;subst hz;rfl),dq (fun z hz=>by rw [List.mem_singleton] at hz;subst hz;exact HG.out.first),HSG⟩
  case round=>
   clear HSW HL3 HSG
   obtain ⟨k0,lv,qa,qc,Q,Mi,rfl,hlv,hk0,HS,HL,HLV,HGQ,HSG⟩:=hrel
   have s3:=HS.out.box.cell 3
   simp only [zaE,List.getElem?_cons_zero,List.getElem?_cons_succ] at s3
   obtain ⟨dn,hdn⟩:∃ dn,dn=(Q.drop k0).length:=⟨_,rfl⟩
   have hqle:=HS.out.prs.le
   rw [←hdn] at s3 hqle
   have hdl:dn=Q.length-k0:=by rw [hdn,List.length_drop]
   have HDL:=dq hdl
   have HDN:=dq hdn
   have HK0:=dq hk0
   have HCW:=dq HS.out.count
   clear hdn hk0
   by_cases hd:dn=0
   ·have hpos:decide ((0:Int)<(dn:Int))=false:=by simp;omega
    have HF:Hid (WiP mp r w (.returned (.tuple #[.bool true,.slice none 0 0,.int .i64 0])) wr):=dq (by
     obtain ⟨f,h⟩:=HSG.out
     rw [zoW h (by have:=HK0.out;omega)]
     exact ⟨none,0,rfl,Bag.nil _,HS.out.meter,HS.out.kept⟩)
    clear hdl
    go_wp2
    exact bodyPost_ret (v:=.tuple #[.bool true,.slice none 0 0,.int .i64 0]) (by simp [results,Tryz.results52,go_sem]) rfl HF.out
   ·have hpos:decide ((0:Int)<(dn:Int))=true:=by simp;omega
    have hp0:0<dn:=by omega
    obtain ⟨c1,c2⟩:=HS.out.clear
    have HC1:Hid (SqAt w mp Mi gs gm (.slice ba nb bc) lv none 0 (Q.drop Q.length) (Q.map zhw) (wr.setCell ⟨gs,3,none⟩ (.slice none 0 0))):=dq (by rw [List.drop_length];exact c1)
    have HQ1:=dq c2
    have HL1:Hid (Lies (wr.setCell ⟨gs,3,none⟩ (.slice none 0 0)) gl 53 [.slice xa n0 xc,.slice pa np pc]):=dq (HL.out.far HGS.out _)
    have HNQ:=dq HS.out.new
    have hfz:=HS.out.box.frozen 3
    clear c1 c2 hdl
    go_wp2
    go_loopw [8,39] (fun ev iv wr=>∃ (i:Nat) (qb:Option Addr) (qbc:Nat) (Q2:List Pr) (M2:Mr),i≤dn∧ev=.int .i64 0∧iv=.int .i64 i∧(0<i→lv≤59)∧Hid (SqAt w mp M2 gs gm (.slice ba nb bc) lv qb qbc (Q2.drop Q.length) (Q2.map zhw) wr)∧Hid (Lies wr gl 53 [.slice xa n0 xc,.slice pa np pc])∧Hid (Qrs wr qa qc (Q.drop k0))∧Hid (∀ g,qb=some ⟨g,0,none⟩→qa≠some ⟨g,0,none⟩)∧Hid (∃ R,Q2=Q++R∧∀ z∈R,z.n=lv+1)∧Hid (∀ z∈Q2,G z)∧Hid (∃ f,zag X b f (k0+i) Q2 M2=some r)) (fun _ iv _=>dn-(intOf iv).toNat)
    case atStart=>exact ⟨0,none,0,Q,Mi,Nat.zero_le _,rfl,rfl,fun h=>absurd h (Nat.lt_irrefl _),HC1,HL1,HQ1,dq (fun g e=>by cases e),dq ⟨[],by simp,fun z hz=>by simp at hz⟩,HGQ,HSG⟩
    case round=>
     clear HC1 HL1 HQ1 HSG s3 hfz
     obtain ⟨i,qb,qbc,Q2,M2,hi,rfl,rfl,h59,HS2,HL2,HQ2,HNE,HRR,HG2,HSG⟩:=hrel
     by_cases hlt:i<dn
     ·obtain ⟨g,l,e1,hx,hcells,hat⟩:=HQ2.out.at (k:=i) (by rw [←HDN.out];exact hlt)
      obtain ⟨ca,cc,la,lc,wa,wc,z⟩:=l
      simp only at hx
      have c0:=hcells 0 (by omega)
      have c1:=hcells 1 (by omega)
      have c2:=hcells 2 (by omega)
      simp only [Qb.cells,List.getElem?_cons_zero,List.getElem?_cons_succ,Nat.add_zero] at c0 c1 c2
      have hkQ:k0+i<Q.length:=by have:=HDL.out;omega
      have hz2:prAt Q2 (k0+i)=z:=by
       obtain ⟨R,e,_⟩:=HRR.out
       rw [hx,e]
       simp [prAt,List.getD,List.getElem?_append_left hkQ]
      have hk2:k0+i<Q2.length:=by
       obtain ⟨R,e,_⟩:=HRR.out
       rw [e,List.length_append]
       omega
      have hzm:z∈Q.drop k0:=by
       rw [hx,zkQ (by rw [←HDN.out];exact hlt)]
       exact List.getElem_mem _
      have hzn:z.n=lv:=HLV.out z hzm
      have hzG:G z:=HG2.out z (by rw [←hz2,zkQ hk2];exact List.getElem_mem _)
      obtain ⟨hzP,hzc,hzw,hzl,hz60⟩:=HG.out.ok z hzG
      have bb:=below_alloc wr (.cells #[.slice ca z.c.length cc,.slice la z.l.length lc,.slice wa z.w.length wc] 128)
      have HS3:=dq (HS2.out.below bb)
      have HL3:=dq (HL2.out.below bb HL2.out.lt)
      have HQ3:=dq (HQ2.out.below bb)
      have HP3:=dq (hat.below bb)
      have HX3:=dq (Lies.new wr 128 [.slice ca z.c.length cc,.slice la z.l.length lc,.slice wa z.w.length wc])
      have HON:Hid (¬(z.c=[]∧finalL z.l=false)→(behP X b z Q2 M2).1.length≤r.q.length∧(∃ R,(behP X b z Q2 M2).1=Q2++R∧∀ y∈R,y.n=z.n+1)∧
        ((behP X b z Q2 M2).2.1=0→z.n≤59∧∃ g,zag X b g (k0+i+1) (behP X b z Q2 M2).1 (behP X b z Q2 M2).2.2=some r)∧
        ((behP X b z Q2 M2).2.1≠0→r=⟨false,[],(behP X b z Q2 M2).2.1,(behP X b z Q2 M2).2.2,(behP X b z Q2 M2).1⟩)):=dq (fun h=>by
       obtain ⟨f,hf⟩:=HSG.out
       have:=zqV HG.out.rp (by rw [hz2];exact hzP.c) hf hk2 (by rw [hz2];exact h)
       rw [hz2] at this
       exact this)
      have HNO:Hid (z.c=[]→finalL z.l=false→r=⟨false,z.w,0,M2,Q2⟩):=dq (fun h1 h2=>by
       obtain ⟨f,hf⟩:=HSG.out
       have:=zqU hf hk2 (by rw [hz2];exact ⟨h1,h2⟩)
       rw [hz2] at this
       exact this)
      have HQQ:Hid (Q.length≤Q2.length):=dq (by
       obtain ⟨R,e,_⟩:=HRR.out
       rw [e,List.length_append]
       omega)
      have HZB:Hid (¬(z.c=[]∧finalL z.l=false)→∀ V,SqAt w mp M2 gs gm (.slice ba nb bc) lv qb qbc (Q2.drop Q.length) (Q2.map zhw) V→QbAt V ⟨ca,cc,la,lc,wa,wc,z⟩→Calls Tryz.prog 86 #[.pointer (some ⟨gs,0,none⟩),.agg #[.slice ca z.c.length cc,.slice la z.l.length lc,.slice wa z.w.length wc],.slice pa np pc] V (zee w mp gs gm (.slice ba nb bc) lv Q.length qb V (behP X b z Q2 M2))):=dq (fun h V s p=>by
       have hb:(behP X b z Q2 M2).1.length≤1000000000:=Nat.le_trans (HON.out h).1 HLR.out
       rw [←HNB.out] at s ⊢
       have:=zsd X V s pa pc z hzn HPS.out (fun h9=>⟨HTAB.out,HBL.out,HPS.out,HG.out.rp,hzP.c,hzc,hzn,h9,hzw,hzl,fun m c M hc h0=>(HG.out.ok _ (HG.out.step z m c M hzG (by omega) hc h0)).1⟩) ca cc la lc wa wc p (fun y hy=>(HG.out.ok y (HG2.out y hy)).1) hb HQQ.out
       rw [HNP.out] at this
       exact this)
      have HGZ:Hid (∀ y∈(behP X b z Q2 M2).1,G y):=dq (zt1 HG.out hzG HG2.out)
      have HZN:=dq hzn
      have ZF:=zqt la lc z.l _ (HP3.out.l)
      have hlc:=hat.c.le
      have hll:=hat.l.le
      have hlw:=hat.w.le
      simp only at ZF hlc hll hlw
      subst e1
      generalize hn1:z.c.length=n1 at c0 HX3 HZB ZF hlc bb HS3 HL3 HQ3 HP3
      generalize hn2:z.l.length=n2 at c1 HX3 HZB ZF hll bb HS3 HL3 HQ3 HP3
      generalize hn3:z.w.length=n3 at c2 HX3 HZB ZF hlw bb HS3 HL3 HQ3 HP3
      have HN1:=dq hn1
      have HN3:=dq hn3
      have HZF:=dq ZF
      have HLT:Hid (gl<wr.heap.size):=dq HL2.out.lt
      clear bb ZF hcells hx hat hz2 hk2 hkQ hzm hzn hzG hzP hzc hzw hzl hz60 hn1 hn2 hn3
      have i1:(0:Int)≤(i:Int):=by omega
      have i2:(i:Int)<(dn:Int):=by omega
      have y0:=HX3.out.cell 0
      have y1:=HX3.out.cell 1
      have y2:=HX3.out.cell 2
      simp only [List.getElem?_cons_zero,List.getElem?_cons_succ] at y0 y1 y2
      have p1:=HL3.out.cell 1
      simp only [List.getElem?_cons_zero,List.getElem?_cons_succ] at p1
      by_cases hc0:n1=0
      ·have hz0:z.c=[]:=List.eq_nil_of_length_eq_zero (by rw [HN1.out];exact hc0)
       have HZ0:=dq hz0
       subst hc0
       clear hz0
       go_wp2_with (fail)
       refine HZF.out.mono ?_
       rintro e W4 ⟨rfl,b4⟩
       generalize wr.alloc (.cells #[.slice ca 0 cc,.slice la n2 lc,.slice wa n3 wc] 128)=W3 at HS3 HL3 HQ3 HP3 HX3 b4 y0 y1 y2 p1
       generalize wr.heap.size=gb at HX3 HLT y0 y1 y2 ⊢
       have HS4:=dq (HS3.out.below b4)
       have HL4:=dq (HL3.out.below b4 HL3.out.lt)
       have HQ4:=dq (HQ3.out.below b4)
       have HP4:=dq (HP3.out.below b4)
       have HX4:=dq (HX3.out.below b4 HX3.out.lt)
       clear b4 y0 y1 y2 p1 HS3 HL3 HQ3 HP3 HX3 HZF
       cases hfin:finalL z.l with
       | false=>
        have hre:=HNO.out HZ0.out hfin
        have bz:Below W4.heap.size W4 W4.drew:=⟨rfl,rfl,rfl,Nat.le_refl _,fun _ _=>rfl⟩
        have HF:Hid (WiP mp r w (.returned (.tuple #[.bool false,.slice wa n3 wc,.int .i64 0])) W4.drew):=dq (by
         rw [hre]
         exact ⟨wa,wc,by rw [HN3.out],HP4.out.w.below bz,HS4.out.meter.below bz,HS4.out.kept.then bz⟩)
        have bd:Lies W4.drew gb 128 [.slice ca 0 cc,.slice la n2 lc,.slice wa n3 wc]:=HX4.out.below bz HX4.out.lt
        clear hre bz
        go_upto_region 13 with (fail)
        refine wp_region_held_drew (S:=fun V=>Lies V gb 128 [.slice ca 0 cc,.slice la n2 lc,.slice wa n3 wc]) (by kernel_rfl) bd (fun hHeld=>?_)
        clear hHeld
        refine wpAnyH_take (i:=0) (oi:=⟨some 53,.fieldAddr 128 (.tmp 12) 2,0,"search.go:47",#[{on:=2,ground:=Ground.gcOnly Departure.lateStores}],none⟩) (v:=?_) rfl (by kernel_rfl) (by kernel_rfl) (by kernel_rfl) (fun _ _ _ h=>h) (Or.inl ⟨by rfl,?_⟩) bd ?_
        rotate_left
        ·intro w hSw
         go_simp
         try with_reducible rfl
        try simp only [Act.put,List.setIfInBounds_toArray,List.set_cons_zero,List.set_cons_succ]
        refine wpAnyH_take (i:=1) (oi:=⟨some 54,.load 31 (.tmp 53),31,"search.go:47",#[⟨0,.data⟩,{on:=2,ground:=Ground.gcOnly Departure.lateStores}],none⟩) (v:=?_) rfl (by kernel_rfl) (by kernel_rfl) (by kernel_rfl) (fun _ _ _ h=>h) (Or.inl ⟨by rfl,?_⟩) bd ?_
        rotate_left
        ·intro w hSw
         have y2:=hSw.cell 2
         simp only [List.getElem?_cons_zero,List.getElem?_cons_succ] at y2
         go_simp
         try with_reducible rfl
        try simp only [Act.put,List.setIfInBounds_toArray,List.set_cons_zero,List.set_cons_succ]
        refine wpAnyH_take (i:=2) (oi:=⟨some 6,.assign (.const (.bool false)),4,"search.go:47",#[{on:=0,ground:=Ground.textOnly Departure.lateStores},{on:=1,ground:=Ground.textOnly Departure.lateStores}],none⟩) (v:=?_) rfl (by kernel_rfl) (by kernel_rfl) (by kernel_rfl) (fun _ _ _ h=>h) (Or.inl ⟨by rfl,?_⟩) bd ?_
        rotate_left
        ·intro w hSw
         go_simp
         try with_reducible rfl
        try simp only [Act.put,List.setIfInBounds_toArray,List.set_cons_zero,List.set_cons_succ]
        refine wpAnyH_take (i:=3) (oi:=⟨some 7,.assign (.tmp 54),31,"search.go:47",#[⟨1,.data⟩,⟨2,.chain⟩,⟨0,.phase⟩,⟨1,.phase⟩,⟨2,.phase⟩],none⟩) (v:=?_) rfl (by kernel_rfl) (by kernel_rfl) (by kernel_rfl) (fun _ _ _ h=>h) (Or.inl ⟨by rfl,?_⟩) bd ?_
        rotate_left
        ·intro w hSw
         go_simp
         try with_reducible rfl
        try simp only [Act.put,List.setIfInBounds_toArray,List.set_cons_zero,List.set_cons_succ]
        refine wpAnyH_take (i:=4) (oi:=⟨some 8,.assign (.const (.int .i64 0)),34,"search.go:47",#[⟨3,.chain⟩,⟨0,.phase⟩,⟨1,.phase⟩,⟨2,.phase⟩,⟨3,.phase⟩],none⟩) (v:=?_) rfl (by kernel_rfl) (by kernel_rfl) (by kernel_rfl) (fun _ _ _ h=>h) (Or.inl ⟨by rfl,?_⟩) bd ?_
        rotate_left
        ·intro w hSw
         go_simp
         try with_reducible rfl
        try simp only [Act.put,List.setIfInBounds_toArray,List.set_cons_zero,List.set_cons_succ]
        refine wpAnyH_done (by kernel_rfl) ?_ _
        go_wp2
        exact bodyPost_ret (v:=.tuple #[.bool false,.slice wa n3 wc,.int .i64 0]) (by simp [results,Tryz.results52,go_sem]) rfl HF.out
       | true=>
        have hcond:¬(z.c=[]∧finalL z.l=false):=fun h=>by rw [hfin] at h;exact absurd h.2 (by simp)
        have y0:=HX4.out.cell 0
        have y1:=HX4.out.cell 1
        have y2:=HX4.out.cell 2
        simp only [List.getElem?_cons_zero,List.getElem?_cons_succ] at y0 y1 y2
        have p1:=HL4.out.cell 1
        simp only [List.getElem?_cons_zero,List.getElem?_cons_succ] at p1
        go_wp2_with (fail)
        refine (HZB.out hcond _ HS4.out HP4.out).mono ?_
        clear HZB
        rintro e W5 ⟨rfl,qe,qec,s5,k5,f5⟩
        obtain ⟨_,hRn,hOn0,hOn1⟩:=HON.out hcond
        have HL5:=dq (HL4.out.kept k5 (HNL.out qb (fun g e e2=>by
         subst e2
         obtain ⟨cs,l2⟩:=HS4.out.prs.lies e
         exact HL4.out.other l2 (by decide) rfl)))
        have HQ5:=dq (HQ4.out.far k5 HS4.out.far (fun g e h=>by
         obtain ⟨cs,l2⟩:=HQ4.out.lies e
         rcases h with h | h | h | h
         ·have:=HOLD2.out _ h;have:=HNQ.out g e;omega
         ·subst h;exact l2.other HS4.out.box (by decide) rfl
         ·exact HS4.out.map.cells l2 h
         ·exact HNE.out g h e))
        have HNE5:Hid (∀ g',qe=some ⟨g',0,none⟩→(some ⟨g,0,none⟩:Option Addr)≠some ⟨g',0,none⟩):=dq (fun g' e h=>by
         rcases f5 g' e with h2 | h2
         ·exact HNE.out g' h2 h
         ·have:=HQ4.out.lt h;omega)
        have HRR5:Hid (∃ R,(behP X b z Q2 M2).1=Q++R∧∀ y∈R,y.n=lv+1):=dq (by
         obtain ⟨R,e,hR⟩:=HRR.out
         obtain ⟨R2,e2,hR2⟩:=hRn
         refine ⟨R++R2,by rw [e2,e,List.append_assoc],fun y hy=>?_⟩
         rcases List.mem_append.1 hy with hy | hy
         ·exact hR y hy
         ·rw [hR2 y hy,HZN.out])
        have HS5:=dq s5
        clear s5 k5 f5 hRn HS4 HL4 HQ4 HP4
        by_cases h0:(behP X b z Q2 M2).2.1=0
        ·obtain ⟨h9,hse⟩:=hOn0 h0
         have HSE:=dq hse
         have h9':lv≤59:=by rw [←HZN.out];exact h9
         rw [h0]
         clear hOn0 hOn1 hse h9
         go_wp2
         go_roundw
         case rel=>exact ⟨i+1,qe,qec,(behP X b z Q2 M2).1,(behP X b z Q2 M2).2.2,by omega,by first | rfl | trivial,by go_num,fun _=>h9',HS5,HL5,HQ5,HNE5,HRR5,HGZ,HSE⟩
         case measure=>simp [intOf];omega
        ·have hre:=hOn1 h0
         have hb0:((behP X b z Q2 M2).2.1 != 0)=true:=by simp [h0]
         have HF:Hid (WiP mp r w (.returned (.tuple #[.bool false,.slice none 0 0,.int .i64 (behP X b z Q2 M2).2.1])) W5):=dq (by
          have e:r.e=(behP X b z Q2 M2).2.1:=by rw [hre]
          have e2:r.ok=false:=by rw [hre]
          have e3:r.w=[]:=by rw [hre]
          have e4:r.m=(behP X b z Q2 M2).2.2:=by rw [hre]
          refine ⟨none,0,by rw [e,e2,e3];rfl,by rw [e3];exact Bag.nil _,by rw [e4];exact HS5.out.meter,HS5.out.kept⟩)
         clear hre hOn0 hOn1
         generalize (behP X b z Q2 M2).2.1=er at HF h0 hb0 ⊢
         go_wp2
         exact bodyPost_ret (v:=.tuple #[.bool false,.slice none 0 0,.int .i64 er]) (by simp [results,Tryz.results52,go_sem]) rfl HF.out
      ·have hcb:((n1:Int)==0)=false:=by simp [hc0]
       have hcond:¬(z.c=[]∧finalL z.l=false):=fun h=>hc0 (by rw [←HN1.out,h.1];rfl)
       generalize hW3:wr.alloc (.cells #[.slice ca n1 cc,.slice la n2 lc,.slice wa n3 wc] 128)=W4 at HS3 HL3 HQ3 HP3 HX3 y0 y1 y2 p1
       subst hW3
       have HS4:=HS3
       have HL4:=HL3
       have HQ4:=HQ3
       have HP4:=HP3
       clear HS3 HL3 HQ3 HP3
       go_wp2_with (fail)
       refine (HZB.out hcond _ HS4.out HP4.out).mono ?_
       clear HZB
       rintro e W5 ⟨rfl,qe,qec,s5,k5,f5⟩
       obtain ⟨_,hRn,hOn0,hOn1⟩:=HON.out hcond
       have HL5:=dq (HL4.out.kept k5 (HNL.out qb (fun g e e2=>by
        subst e2
        obtain ⟨cs,l2⟩:=HS4.out.prs.lies e
        exact HL4.out.other l2 (by decide) rfl)))
       have HQ5:=dq (HQ4.out.far k5 HS4.out.far (fun g e h=>by
        obtain ⟨cs,l2⟩:=HQ4.out.lies e
        rcases h with h | h | h | h
        ·have:=HOLD2.out _ h;have:=HNQ.out g e;omega
        ·subst h;exact l2.other HS4.out.box (by decide) rfl
        ·exact HS4.out.map.cells l2 h
        ·exact HNE.out g h e))
       have HNE5:Hid (∀ g',qe=some ⟨g',0,none⟩→(some ⟨g,0,none⟩:Option Addr)≠some ⟨g',0,none⟩):=dq (fun g' e h=>by
        rcases f5 g' e with h2 | h2
        ·exact HNE.out g' h2 h
        ·have:=HQ4.out.lt h;omega)
       have HRR5:Hid (∃ R,(behP X b z Q2 M2).1=Q++R∧∀ y∈R,y.n=lv+1):=dq (by
        obtain ⟨R,e,hR⟩:=HRR.out
        obtain ⟨R2,e2,hR2⟩:=hRn
        refine ⟨R++R2,by rw [e2,e,List.append_assoc],fun y hy=>?_⟩
        rcases List.mem_append.1 hy with hy | hy
        ·exact hR y hy
        ·rw [hR2 y hy,HZN.out])
       have HS5:=dq s5
       clear s5 k5 f5 hRn HS4 HL4 HQ4 HP4
       by_cases h0:(behP X b z Q2 M2).2.1=0
       ·obtain ⟨h9,hse⟩:=hOn0 h0
        have HSE:=dq hse
        have h9':lv≤59:=by rw [←HZN.out];exact h9
        rw [h0]
        clear hOn0 hOn1 hse h9
        go_wp2
        go_roundw
        case rel=>exact ⟨i+1,qe,qec,(behP X b z Q2 M2).1,(behP X b z Q2 M2).2.2,by omega,by first | rfl | trivial,by go_num,fun _=>h9',HS5,HL5,HQ5,HNE5,HRR5,HGZ,HSE⟩
        case measure=>simp [intOf];omega
       ·have hre:=hOn1 h0
        have hb0:((behP X b z Q2 M2).2.1 != 0)=true:=by simp [h0]
        have HF:Hid (WiP mp r w (.returned (.tuple #[.bool false,.slice none 0 0,.int .i64 (behP X b z Q2 M2).2.1])) W5):=dq (by
         have e:r.e=(behP X b z Q2 M2).2.1:=by rw [hre]
         have e2:r.ok=false:=by rw [hre]
         have e3:r.w=[]:=by rw [hre]
         have e4:r.m=(behP X b z Q2 M2).2.2:=by rw [hre]
         refine ⟨none,0,by rw [e,e2,e3];rfl,by rw [e3];exact Bag.nil _,by rw [e4];exact HS5.out.meter,HS5.out.kept⟩)
        clear hre hOn0 hOn1
        generalize (behP X b z Q2 M2).2.1=er at HF h0 hb0 ⊢
        go_wp2
        exact bodyPost_ret (v:=.tuple #[.bool false,.slice none 0 0,.int .i64 er]) (by simp [results,Tryz.results52,go_sem]) rfl HF.out
     ·obtain rfl:i=dn:=by omega
      have h9:lv≤59:=h59 (by omega)
      obtain ⟨l1,l2⟩:=HS2.out.letter
      have s2:=HS2.out.box.cell 2
      simp only [zaE,List.getElem?_cons_zero,List.getElem?_cons_succ] at s2
      have hfz:=HS2.out.box.frozen 2
      have HS5:=dq l1
      have HL5:Hid (Lies (wr.setCell ⟨gs,2,none⟩ (.int .i64 ((lv:Int)+1))) gl 53 [.slice xa n0 xc,.slice pa np pc]):=dq (HL2.out.far HGS.out _)
      have HC5:=dq l1.count
      have HQ5:Hid (Q.length≤Q2.length∧∀ y∈Q2.drop Q.length,y.n=lv+1):=dq (by
       obtain ⟨R,e,hR⟩:=HRR.out
       rw [e,List.length_append,List.drop_left]
       exact ⟨by omega,hR⟩)
      have HSG5:Hid (∃ f,zag X b f Q.length Q2 M2=some r):=dq (by
       have h:=HSG.out
       rwa [show k0+i=Q.length by have:=HDL.out;have:=HK0.out;omega] at h)
      clear l1 l2 HS2 HL2 HQ2 HRR HSG
      go_wp2
      go_roundw
      case rel=>exact ⟨Q.length,lv+1,qb,qbc,Q2,M2,by first | rfl | trivial,by omega,HQ5.out.1,HS5,HL5,dq HQ5.out.2,HG2,HSG5⟩
      case measure=>rw [HC5.out,HCW.out];omega
 ·rw [if_neg hs] at had
  subst had
  dsimp only at HS3 ⊢
  have HF:Hid (WiP mp r w (.returned (.tuple #[.bool false,.slice none 0 0,.int .i64 7])) W3):=dq (by
   have h:=HR.out
   unfold zbX at h
   rw [if_neg hs] at h
   injection h with h
   rw [←h]
   exact ⟨none,0,rfl,Bag.nil _,HS3.out.meter,HS3.out.kept⟩)
  go_wp2
  exact bodyPost_ret (v:=.tuple #[.bool false,.slice none 0 0,.int .i64 7]) (by simp [results,Tryz.results52,go_sem]) rfl HF.out
end Go.Proofs.YtmnkjekjknhhjaaGreatDoor
namespace Go.Proofs.YtmnkjekjknhhjaaGreatDoor
open Go.ChangeShapes Go.WideShapes Go.ChangeAt Go.RowKit Go.Maps
theorem ziN {x:Lin} {b:List Lin}:∀ (f k:Nat) (Q:List Pr) (M:Mr) (r:Sr),zag x b f k Q M=some r→r.ok=true→r.e=0
 | 0,_,_,_,_,h,_=>by simp [zag] at h
 | f+1,k,Q,M,r,h,ho=>by
  unfold zag at h
  split at h
  ·split at h
   ·injection h with h;subst h;cases ho
   ·split at h
    ·injection h with h;subst h;cases ho
    ·split at h
     ·exact ziN f _ _ _ r h ho
     ·injection h with h;subst h;cases ho
  ·injection h with h;subst h;rfl
theorem zgW {x:Lin} {b:List Lin} {f:Nat} {M:Mr} {r:Sr} (h:zbX f x b M=some r) (ho:r.ok=true):r.e=0:=by
 unfold zbX at h
 split at h
 ·exact ziN _ _ _ _ _ h ho
 ·injection h with h;subst h;cases ho
theorem zc3 {f:Nat} {b:List Lin}:∀ (a:List Lin) (M:Mr) (r:Bool×List Int×Int×Mr),zaM f b a M=some r→r.1=true→r.2.2.1=0
 | [],M,r,h,_=>by
  unfold zaM at h
  injection h with h
  subst h
  rfl
 | x::a,M,r,h,ho=>by
  unfold zaM at h
  cases hs:zbX f x b M with
  | none=>rw [hs] at h;cases h
  | some s=>
   rw [hs] at h
   dsimp only at h
   split at h
   ·exact zc3 a _ r h ho
   ·injection h with h
    subst h
    cases ho
theorem zbe {B S:Int} {f:Nat} {b:List Lin} (hf:B-S<(f:Int)):∀ (a:List Lin) (M:Mr),Mbs B S M→∃ r,zaM f b a M=some r∧Mbs B S r.2.2.2
 | [],M,h=>⟨_,rfl,h⟩
 | x::a,M,h=>by
  obtain ⟨s,hs,_,hm⟩:=zeK x b h hf
  unfold zaM
  rw [hs]
  dsimp only
  split
  ·exact zbe hf a s.m hm
  ·exact ⟨_,rfl,hm⟩
theorem ziO {f:Nat} {b:List Lin} {x:Lin} {a:List Lin} {M:Mr} {r:Bool×List Int×Int×Mr} (h:zaM f b (x::a) M=some r):∃ s,zbX f x b M=some s∧(s.ok=true→zaM f b a s.m=some r)∧(s.ok=false→r=(false,s.w,s.e,s.m)):=by
 unfold zaM at h
 cases hs:zbX f x b M with
 | none=>rw [hs] at h;cases h
 | some s=>
  rw [hs] at h
  dsimp only at h
  refine ⟨s,rfl,fun ho=>?_,fun ho=>?_⟩
  ·rw [if_pos ⟨zgW hs ho,ho⟩] at h
   exact h
  ·rw [if_neg (fun h=>by rw [ho] at h;exact absurd h.2 (by simp))] at h
   injection h with h
   exact h.symm
theorem zod {a:List Lin} {k:Nat} (hk:k<a.length):a.drop k=zab a k::a.drop (k+1):=by
 rw [List.drop_eq_getElem_cons hk]
 simp [zab,List.getD,hk]
def zmd (f:Nat) (M:Mr) (a b:List Lin):Option (Bool×Int×Mr):=match zaM f b a M with
 | none=>none
 | some r=>if r.1=true then (match zaM f a b r.2.2.2 with
  | none=>none
  | some s=>some (s.1,s.2.2.1,s.2.2.2)) else some (false,r.2.2.1,r.2.2.2)
theorem zqY {B S:Int} {f:Nat} {a b:List Lin} (hf:B-S<(f:Int)) {M:Mr} (h:Mbs B S M):∃ r,zmd f M a b=some r∧Mbs B S r.2.2:=by
 obtain ⟨r,hr,hm⟩:=zbe (b:=b) hf a M h
 obtain ⟨s,hs,hm2⟩:=zbe (b:=a) hf b r.2.2.2 hm
 unfold zmd
 rw [hr]
 dsimp only
 rw [hs]
 split
 ·exact ⟨_,rfl,hm2⟩
 ·exact ⟨_,rfl,hm⟩
theorem zqZ {a b:List Lin} (ha:Thin a) (hb:Thin b) {j:Nat} (hj:j<a.length) {N:Mr} (hN:N=none):Goes (zab a j) b (PrOk a b j N):=by
 have hX:=ha.each _ (zoK hj)
 have hst:∀ z,PrOk a b j N z→zgt b z.l:=fun z h=>by
  rw [h.items]
  exact ziD hb z.w z.n hN
 refine ⟨hX.trim.base.right,fun p hp=>(hX.pers p hp).right,zjT ha hj,fun z h=>?_,fun q m c M h hn hc h0=>?_⟩
 ·have hs:=hst z h
  have hf:=hb.few
  refine ⟨⟨h.read.ok.small.right,fun x hx=>?_,?_⟩,ze7 hb hs.1 hs.2,h.right,h.low,h.far⟩
  ·have:=hs.2 x hx
   exact ⟨this.small.right,this.lo,by have:=this.hi;omega⟩
  ·have:=zkI hb hs.1 hs.2
   omega
 ·have e:=zgT (zao c) q.l M N hN h0
  have k:=zl4 ha hb hN h hn hc
  rw [e] at k
  exact k
def zsy (T:TypeId) (mp:Option Addr) (r:Bool×List Int×Int×Mr) (w:World) (e:Ending) (w':World):Prop:=
 ∃ a c,e=.returned (.tuple #[.bool r.1,.slice a r.2.1.length c,.int .i64 r.2.2.1])∧Bag w' a c r.2.1∧MrAt w' T mp r.2.2.2∧MK mp w w'
def zub (T:TypeId) (mp:Option Addr) (r:Bool×Int×Mr) (w:World) (e:Ending) (w':World):Prop:=
 e=.returned (.tuple #[.bool r.1,.int .i64 r.2.1])∧MrAt w' T mp r.2.2∧MK mp w w'
set_option maxRecDepth 100000 in
set_option maxHeartbeats 4000000 in
theorem zkW {mp:Option Addr} {M:Mr} (w:World) (HM0:MrAt w 72 mp M) (htab:zt7 mp w) (aa:Option Addr) (ac:Nat) (ba:Option Addr) (bc:Nat) (a b:List Lin) (RA:Lins w aa ac a) (RB:Lins w ba bc b) (ha:Thin a) (hb:Thin b) {B S:Int} (hm:Mbs B S M) (hB:B≤1000000) (h0:0≤S) (f:Nat) (hf:B-S<(f:Int)) (res:Bool×List Int×Int×Mr) (hr:zaM f b a M=some res) :
  Calls Tryz.prog 18 #[.pointer mp,.slice aa a.length ac,.slice ba b.length bc] w (zsy 72 mp res w):=by
 have hla:=RA.le
 have hlb:=RB.le
 have Z0:=zfJ aa ac a w RA
 rw [zan.2 ha.rise] at Z0
 have Z1:=fun W (h:Below w.heap.size w W)=>zfJ ba bc b W (RB.below h)
 rw [zan.2 hb.rise] at Z1
 have HRA:Hid (∀ V,MK mp w V→Lins V aa ac a):=dq (fun V k=>Lins.mk HM0 mtP k RA)
 have HRB:Hid (∀ V,MK mp w V→Lins V ba bc b):=dq (fun V k=>Lins.mk HM0 mtP k RB)
 have HMM:=dq HM0
 have HTAB:=dq htab
 have HA:=dq ha
 have HB:=dq hb
 have HMB:=dq hm
 have HR:=dq hr
 have HBB:Hid (B≤1000000∧0≤S∧B-S<(f:Int)):=dq ⟨hB,h0,hf⟩
 generalize hna:a.length=na at hla Z0 ⊢
 generalize hnb:b.length=nb at hlb Z1 ⊢
 have HNA:=dq hna
 have HNB:=dq hnb
 have HZ0:=dq Z0
 have HZ1:=dq Z1
 clear Z0 Z1 RA RB HM0 ha hb hm hr hna hnb hB h0 hf htab
 go_enter Tryz.func18,Tryz.ntmps18
 go_wp2_with (fail)
 refine HZ0.out.mono ?_
 rintro e w1 ⟨rfl,b1⟩
 have HB1:=dq b1
 clear b1 HZ0
 go_wp2_with (fail)
 refine (HZ1.out w1 HB1.out).mono ?_
 rintro e w2 ⟨rfl,b2⟩
 have HB2:=dq (HB1.out.trans (b2.mono HB1.out.size))
 have HM2:=dq (HMM.out.below HB2.out)
 have HK2:Hid (MK mp w w2):=dq (Kept.of_below HB2.out)
 have HR2:Hid (zaM f b (a.drop 0) M=some res):=dq (by rw [List.drop_zero];exact HR.out)
 clear b2 HZ1 HB1 HB2 HR
 go_wp2
 go_loopw [21] (fun iv wr=>∃ (i:Nat) (Mi:Mr),i≤na∧iv=.int .i64 i∧Hid (MrAt wr 72 mp Mi)∧Hid (MK mp w wr)∧Hid (Mbs B S Mi)∧Hid (zaM f b (a.drop i) Mi=some res)) (fun iv _=>na-(intOf iv).toNat)
 case atStart=>exact ⟨0,M,Nat.zero_le _,rfl,HM2,HK2,HMB,HR2⟩
 case round=>
  clear HM2 HK2 HR2
  obtain ⟨i,Mi,hi,rfl,HMi,HK,HMb,HRi⟩:=hrel
  by_cases hlt:i<na
  ·have hia:i<a.length:=by rw [HNA.out];exact hlt
   obtain ⟨g,xb,xd,pb,pd,e1,q0,q1,B0,P0⟩:=(HRA.out _ HK.out).at (k:=i) hia
   subst e1
   have hbl:=B0.le
   have hpl:=P0.le
   have hst:=HRi.out
   rw [zod hia] at hst
   obtain ⟨s,hs,hs1,hs2⟩:=ziO hst
   obtain ⟨s',hs',hq,hmb⟩:=zeK (zab a i) b HMb.out HBB.out.2.2
   rw [hs] at hs'
   injection hs' with hs'
   subst hs'
   have hqb:s.q.length≤1000000000:=by have:=HBB.out;omega
   have bb:=below_alloc wr (.cells #[.slice xb (zab a i).base.length xd,.slice pb (zab a i).ps.length pd] 53)
   have HK3:Hid (MK mp w (wr.alloc (.cells #[.slice xb (zab a i).base.length xd,.slice pb (zab a i).ps.length pd] 53))):=dq (HK.out.then bb)
   have Z:=zse _ (HMi.out.below bb) (fun U u=>HTAB.out U (HK3.out.and u)) xb xd pb pd (zab a i) (B0.below bb) (P0.below bb) ba bc b ((HRB.out _ HK3.out)) (by have:=HB.out.few;omega) (PrOk a b i (none:Mr)) (zqZ HA.out HB.out hia rfl) f s hs hqb
   have HMS:=dq hmb
   have HS1:=dq hs1
   have HS2:=dq hs2
   have HSO:=dq (zgW hs)
   rw [HNB.out] at Z
   generalize (zab a i).base.length=u at q0 hbl Z HK3
   generalize (zab a i).ps.length=v at q1 hpl Z HK3
   have HZ:=dq Z
   have i1:(0:Int)≤(i:Int):=by omega
   have i2:(i:Int)<(na:Int):=by omega
   clear B0 P0 bb Z hs hst hs1 hs2 hq hmb hqb hia
   go_wp2_with (fail)
   refine HZ.out.mono ?_
   clear HZ
   rintro e W4 ⟨a4,c4,rfl,B4,m4,k4⟩
   have HK4:=dq (HK3.out.and k4)
   have HM4:=dq m4
   have HB4:=dq B4
   have hl4:=B4.le
   clear B4 m4 k4 HK3
   obtain ⟨sok,sw,se,sm,sq⟩:=s
   dsimp only at HMS HS1 HS2 HM4 HB4 hl4 HSO ⊢
   generalize hswl:sw.length=swl at hl4 ⊢
   have HSW:=dq hswl
   clear hswl
   cases sok with
   | true=>
    have he:=HSO.out rfl
    have HR5:=dq (HS1.out rfl)
    subst he
    go_wp2
    go_roundw
    case rel=>exact ⟨i+1,sm,by omega,by go_num,HM4,HK4,HMS,HR5⟩
    case measure=>simp [intOf];omega
   | false=>
    have hre:=HS2.out rfl
    have HF:Hid (zsy 72 mp res w (.returned (.tuple #[.bool false,.slice a4 swl c4,.int .i64 se])) W4):=dq (by
     rw [hre,←HSW.out]
     exact ⟨a4,c4,rfl,HB4.out,HM4.out,HK4.out⟩)
    clear hre
    go_wp2
    exact bodyPost_ret (v:=.tuple #[.bool false,.slice a4 swl c4,.int .i64 se]) (by simp [results,Tryz.results18,go_sem]) rfl HF.out
  ·obtain rfl:i=na:=by omega
   have HF:Hid (zsy 72 mp res w (.returned (.tuple #[.bool true,.slice none 0 0,.int .i64 0])) wr):=dq (by
    have h:=HRi.out
    rw [←HNA.out,List.drop_length] at h
    unfold zaM at h
    injection h with h
    rw [←h]
    exact ⟨none,0,rfl,Bag.nil _,HMi.out,HK.out⟩)
   go_wp2
   exact bodyPost_ret (v:=.tuple #[.bool true,.slice none 0 0,.int .i64 0]) (by simp [results,Tryz.results18,go_sem]) rfl HF.out
set_option maxRecDepth 100000 in
set_option maxHeartbeats 4000000 in
theorem zuL {mp:Option Addr} {M:Mr} (w:World) (HM0:MrAt w 72 mp M) (htab:zt7 mp w) (aa:Option Addr) (ac:Nat) (ba:Option Addr) (bc:Nat) (a b:List Lin) (RA:Lins w aa ac a) (RB:Lins w ba bc b) (ha:Thin a) (hb:Thin b) {B S:Int} (hm:Mbs B S M) (hB:B≤1000000) (h0:0≤S) (f:Nat) (hf:B-S<(f:Int)) (res:Bool×Int×Mr) (hr:zmd f M a b=some res) :
  Calls Tryz.prog 21 #[.pointer mp,.slice aa a.length ac,.slice ba b.length bc] w (zub 72 mp res w):=by
 have hla:=RA.le
 have hlb:=RB.le
 obtain ⟨r1,hr1,hm1⟩:=zbe (b:=b) hf a M hm
 obtain ⟨r2,hr2,_⟩:=zbe (b:=a) hf b r1.2.2.2 hm1
 have Z1:=zkW w HM0 htab aa ac ba bc a b RA RB ha hb hm hB h0 f hf r1 hr1
 have HZ2:Hid (∀ V,MK mp w V→MrAt V 72 mp r1.2.2.2→Calls Tryz.prog 18 #[.pointer mp,.slice ba b.length bc,.slice aa a.length ac] V (zsy 72 mp r2 V)):=dq (fun V k m=>
  zkW V m (fun U u=>htab U (k.and u)) ba bc aa ac b a (Lins.mk HM0 mtP k RB) (Lins.mk HM0 mtP k RA) hb ha hm1 hB h0 f hf r2 hr2)
 have HYES:Hid (r1.1=true→res=(r2.1,r2.2.2.1,r2.2.2.2)):=dq (fun h=>by
  unfold zmd at hr
  rw [hr1] at hr
  dsimp only at hr
  rw [if_pos h,hr2] at hr
  injection hr with hr
  exact hr.symm)
 have HNO:Hid (r1.1=false→res=(false,r1.2.2.1,r1.2.2.2)):=dq (fun h=>by
  unfold zmd at hr
  rw [hr1] at hr
  dsimp only at hr
  rw [if_neg (by rw [h];simp)] at hr
  injection hr with hr
  exact hr.symm)
 have HO1:=dq (zc3 a M r1 hr1)
 have HO2:=dq (zc3 b _ r2 hr2)
 generalize a.length=na at hla Z1 HZ2 ⊢
 generalize b.length=nb at hlb Z1 HZ2 ⊢
 have HZ1:=dq Z1
 clear Z1 RA RB HM0 ha hb hm hr hr1 hm1 hr2 hB h0 hf htab
 obtain ⟨ok1,v1,e1,M1⟩:=r1
 obtain ⟨ok2,v2,e2,M2⟩:=r2
 dsimp only at HZ1 HZ2 HYES HNO HO1 HO2
 go_enter Tryz.func21,Tryz.ntmps21
 go_wp2_with (fail)
 refine HZ1.out.mono ?_
 clear HZ1
 rintro e W1 ⟨a1,c1,rfl,B1,m1,k1⟩
 have HM1:=dq m1
 have HK1:=dq k1
 have hl1:=B1.le
 dsimp only at hl1 HM1 ⊢
 generalize v1.length=l1 at hl1 ⊢
 clear B1 m1 k1
 cases ok1 with
 | false=>
  have HF:Hid (zub 72 mp res w (.returned (.tuple #[.bool false,.int .i64 e1])) W1):=dq (by
   rw [HNO.out rfl]
   exact ⟨rfl,HM1.out,HK1.out⟩)
  go_wp2
  exact bodyPost_ret (v:=.tuple #[.bool false,.int .i64 e1]) (by simp [results,Tryz.results21,go_sem]) rfl HF.out
 | true=>
  have he1:=HO1.out rfl
  subst he1
  have hres:=HYES.out rfl
  have HZ:=dq (HZ2.out W1 HK1.out HM1.out)
  clear HZ2 HYES HNO
  go_wp2_with (fail)
  refine HZ.out.mono ?_
  clear HZ
  rintro e W2 ⟨a2,c2,rfl,B2,m2,k2⟩
  have HF:Hid (zub 72 mp res w (.returned (.tuple #[.bool ok2,.int .i64 e2])) W2):=dq (by
   rw [hres]
   exact ⟨rfl,m2,HK1.out.and k2⟩)
  have hl2:=B2.le
  dsimp only at hl2 ⊢
  generalize v2.length=l2 at hl2 ⊢
  clear B2 m2 k2 hres
  go_wp2
  exact bodyPost_ret (v:=.tuple #[.bool ok2,.int .i64 e2]) (by simp [results,Tryz.results21,go_sem]) rfl HF.out
end Go.Proofs.YtmnkjekjknhhjaaGreatDoor
