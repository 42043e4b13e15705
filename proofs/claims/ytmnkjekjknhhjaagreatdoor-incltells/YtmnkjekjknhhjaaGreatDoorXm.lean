import Derived.Test.YtmnkjekjknhhjaaGreatDoorWt
import Derived.Test.YtmnkjekjknhhjaaGreatDoorWs
import Derived.Test.YtmnkjekjknhhjaaGreatDoorXi
import Derived.Test.YtmnkjekjknhhjaaGreatDoorCf
import Derived.Deep.CutBlock
import Derived.Deep.DeepCutAuto
import Derived.Deep.CutRange
import Derived.Deep.RegionHeld3
namespace Go.Proofs.YtmnkjekjknhhjaaGreatDoor
open Go.ChangeShapes Go.WideShapes Go.ChangeAt Go.RowKit
theorem zoY {w w':World} {T T':TypeId} {mp rp:Option Addr} {M R:Mr} (h:MrAt w T mp M) (hne:T'≠T) (k:MK mp w w') (h':MrAt w' T' rp R→True) (g:MrAt w T' rp R):MrAt w' T' rp R:=by
 cases R with
 | none=>exact g
 | some p=>
  obtain ⟨B,S,o⟩:=p
  obtain ⟨g,e,a,r⟩:=g
  refine ⟨g,e,Lies.kept a k (fun e2=>?_),r⟩
  rcases h.form with h3 | ⟨b,h3,cs,l⟩
  ·rw [h3] at e2;cases e2
  ·rw [h3] at e2;injection e2 with e2;injection e2 with e2;subst e2
   exact Lies.other a l hne rfl
theorem zbC {w:World} {T:TypeId} {g:Nat} {B S:Int} {o:Bool} (h:MrAt w T (some ⟨g,0,none⟩) (some (B,S,o))):At w T g B S o:=by
 obtain ⟨b,e,a,_⟩:=h
 injection e with e;injection e with e;subst e
 exact a
def zhm (v:Value) (w:World) (e:Ending) (w':World):Prop:=e=.returned v∧Below w.heap.size w w'
theorem zq0 {g:Nat} {B S:Int} {o:Bool} {w:World} (h:MrAt w 72 (some ⟨g,0,none⟩) (some (B,S,o))):Calls Tryz.prog 17 #[.pointer (some ⟨g,0,none⟩)] w (zhm (.int .i64 S) w):=
 (zpJ g B S o w (zbC h)).mono fun e w' ⟨h1,h2⟩=>by subst h2;exact ⟨h1,Below.refl _ _⟩
theorem zvb {g:Nat} {B S:Int} {o:Bool} {w:World} (h:MrAt w 72 (some ⟨g,0,none⟩) (some (B,S,o))):Calls Tryz.prog 23 #[.pointer (some ⟨g,0,none⟩)] w (zhm (.bool o) w):=
 (zsS g B S o w (zbC h)).mono fun e w' ⟨h1,h2⟩=>by subst h2;exact ⟨h1,Below.refl _ _⟩
theorem zjW {B S:Int} (s:List Lin) (w:List Int):∀ (k d:Nat) (l:List It) (M:Mr),Mbs B S M→Mbs B S (zav s w k d l M).2.2
 | 0,d,l,M,h=>h
 | k+1,d,l,M,h=>by
  have hn:=zn2 s l (letterN w (d:Int)) h
  by_cases h0:(nextM M s l (letterN w (d:Int))).2.1=0
  ·rw [zbW h0]
   exact zjW s w k (d+1) _ _ hn
  ·rw [ziA h0]
   exact hn
theorem zsf {B S:Int} {mp:Option Addr} {M:Mr} {s:List Lin} {z:List Int} (hm:Mbs B S M) {w w':World} {e:Ending} (h:zqW mp M s z w e w'):∃ r,Mbs B S r.2.2∧zt2 mp r w e w'∧∀ rp V f V',zuH rp M s z V f V'→ztR rp r V f V':=by
 rcases h with ⟨h1,h2⟩ | ⟨D,h1,h2,h3,h4⟩
 ·refine ⟨(false,1,M),hm,h2,fun rp V f V' k=>?_⟩
  rcases k with ⟨_,k⟩ | ⟨D,_,k,_⟩
  ·exact k
  ·rw [h1] at k;cases k
 ·refine ⟨zua M s z D,?_,h4,fun rp V f V' k=>?_⟩
  ·have:=zjW s z D 0 (startL s) M hm
   unfold zua
   split
   ·exact this
   ·exact this
  ·rcases k with ⟨k,_⟩ | ⟨E,_,_,k3,k4⟩
   ·rw [h2] at k;cases k
   ·rw [zmR h2 h3 k3]
    exact k4
theorem zq1 {w W:World} {g:Nat} (h:Lib.TabIs Tryz.prog w "internal/strconv.uint64pow10" .u64 Lib.pow10Tab) (hg:w.heap.size≤g) (b:Below w.heap.size w W):zt7 (some ⟨g,0,none⟩) W:=fun V k=>
 Lib.tabBelow_of_tabIs h V (b.trans (k.below (fun i e=>by injection e with e;injection e with e;omega) b.size))
set_option maxRecDepth 100000 in
set_option maxHeartbeats 16000000 in
theorem zm1 (a0:Option Addr) (l0 c0:Nat) (z0:List Int) (a1:Option Addr) (l1 c1:Nat) (z1:List Int) (a2:Option Addr) (l2 c2:Nat) (z2:List Int) (n3 n4:Int) (w:World) (h0:Hid (Came w a0 l0 c0 z0)) (h1:Hid (Came w a1 l1 c1 z1)) (h2:Hid (Came w a2 l2 c2 z2)) (hn3 : -9223372036854775808≤n3∧n3≤9223372036854775807) (htab:Hid (Lib.TabIs Tryz.prog w "internal/strconv.uint64pow10" .u64 Lib.pow10Tab)) :
  Calls Tryz.prog 3 #[.slice a0 l0 c0,.slice a1 l1 c1,.slice a2 l2 c2,.int .i64 n3,.int .i64 n4] w (zuN w):=by
 have hlen:=h0.out.1
 have hcap:=h0.out.2.2.1
 have hlen1:=h1.out.1
 have hcap1:=h1.out.2.2.1
 have hlen2:=h2.out.1
 have hcap2:=h2.out.2.2.1
 go_enter Tryz.func3,Tryz.ntmps3
 have HZ:=dq (zqh a0 l0 c0 z0 w h0)
 go_wp2_with (fail)
 refine HZ.out.mono ?_
 rintro e W1 ⟨sa,sc,s,rfl,L1,T1,b1⟩
 have HB1:=dq b1
 have HT:=dq T1
 have HS1:=dq L1
 have hls:=L1.le
 generalize hn:s.length=n at hls ⊢
 have HN:=dq hn
 have HC1:=dq (h1.out.below b1)
 have HC2:=dq (h2.out.below b1)
 clear L1 T1 b1 HZ hn h0 h1 h2
 have HZ:=dq (zqh a1 l1 c1 z1 W1 HC1)
 go_wp2_with (fail)
 refine HZ.out.mono ?_
 rintro e W2 ⟨ta,tc,t,rfl,L2,T2,b2⟩
 have HB2:=dq (HB1.out.trans (b2.mono HB1.out.size))
 have HTT:=dq T2
 have HS2:=dq (HS1.out.below b2)
 have HT2:=dq L2
 have hlt:=L2.le
 generalize hm:t.length=m at hlt ⊢
 have HM:=dq hm
 have HC3:=dq (HC2.out.below b2)
 clear L2 T2 b2 HZ hm HC1 HC2 HB1 HS1
 obtain ⟨B,hB,hB0⟩:∃ B:Int,n3 % ((3000:Nat):Int)=B∧0≤B:=⟨_,rfl,Int.emod_nonneg _ (by omega)⟩
 have hB3:B<3000:=by omega
 have ZW:Hid (∀ V,Calls Tryz.prog 10 #[.int .i64 n3,.int .i64 3000] V fun e w'=>e=.returned (.int .i64 B)∧V=w'):=dq (fun V=>by
  have Z:=Q.within_mod n3 3000 V (by omega) (by omega) hn3.1 hn3.2
  rwa [hB] at Z)
 clear hB hn3
 go_wp2_with (fail)
 refine (ZW.out _).mono ?_
 rintro e _ ⟨rfl,rfl⟩
 go_wp2_with (fail)
 refine (zsT B W2).mono ?_
 rintro e W3 ⟨rfl,m3,b3,_⟩
 go_wp2_with (fail)
 refine (znx B W3).mono ?_
 rintro e W4 ⟨rfl,m4,b4,_⟩
 have hmax:max B 0=B:=by omega
 rw [hmax] at m3 m4
 have HMP:Hid (MrAt W4 72 (some ⟨W2.heap.size,0,none⟩) (some (B,0,false))):=dq ⟨_,rfl,m3.below b4,by omega,by omega,by omega⟩
 have HMR:Hid (MrAt W4 41 (some ⟨W3.heap.size,0,none⟩) (some (B,0,false))):=dq ⟨_,rfl,m4,by omega,by omega,by omega⟩
 have hgm:w.heap.size≤W2.heap.size:=HB2.out.size
 have hgr:w.heap.size≤W3.heap.size:=Nat.le_trans HB2.out.size b3.size
 have HB4:=dq (HB2.out.trans ((b3.trans (b4.mono b3.size)).mono HB2.out.size))
 have HS4:=dq ((HS2.out.below b3).below b4)
 have HT4:=dq ((HT2.out.below b3).below b4)
 have HC4:=dq ((HC3.out.below b3).below b4)
 clear m3 m4 b3 b4 hmax ZW HB2 HS2 HT2 HC3
 generalize W2.heap.size=gm at HMP hgm ⊢
 generalize W3.heap.size=gr at HMR hgr ⊢
 have HZ:=dq (zqk a2 l2 c2 z2 W4 HC4.out)
 go_wp2_with (fail)
 refine HZ.out.mono ?_
 rintro e W5 ⟨xs,_,_,xa,xc,rfl,X5,_,b5⟩
 have HX5:=dq X5
 have hlx:=X5.le
 have HB5:=dq (HB4.out.trans (b5.mono HB4.out.size))
 have HS5:=dq (HS4.out.below b5)
 have HT5:=dq (HT4.out.below b5)
 have HC5:=dq (HC4.out.below b5)
 have HP5:=dq (HMP.out.below b5)
 have HR5:=dq (HMR.out.below b5)
 generalize hxn:xs.length=xn at hlx ⊢
 have HXN:=dq hxn
 clear X5 b5 hxn HZ HB4 HS4 HT4 HC4 HMP HMR
 go_upto_if 40 with (fail)
 go_cut [15] from 38 to 43 (fun zv wx=>∃ (za:Option Addr) (zc zn:Nat) (z:List Int),zv=.slice za zn zc∧zn≤zc∧zc≤9223372036854775807∧Hid (z.length=zn)∧Hid (Bag wx za zc z)∧Hid (Lins wx sa sc s)∧Hid (Lins wx ta tc t)∧Hid (MrAt wx 72 (some ⟨gm,0,none⟩) (some (B,0,false)))∧Hid (MrAt wx 41 (some ⟨gr,0,none⟩) (some (B,0,false)))∧Hid (Below w.heap.size w wx))
 case first=>
  by_cases ho:n4.tmod 5=0
  ·have hmb:(n4.tmod 5==0)=true:=by simp [ho]
   have Z:=zuO a2 l2 c2 z2 W5 HC5.out.1 HC5.out.2.1 HC5.out.2.2.1 HC5.out.2.2.2.1 (dq HC5.out.2.2.2.2)
   have HZ:=dq Z
   clear Z
   go_wp2_with (fail)
   refine HZ.out.mono ?_
   rintro e W6 ⟨za,zc,rfl,Z6,_,b6⟩
   have hlz:=Z6.le
   have HZ6:=dq Z6
   have HB6:=dq (HB5.out.trans (b6.mono HB5.out.size))
   have HS6:=dq (HS5.out.below b6)
   have HT6:=dq (HT5.out.below b6)
   have HP6:=dq (HP5.out.below b6)
   have HR6:=dq (HR5.out.below b6)
   generalize hzn:(z2.take (min l2 5)).length=zn at hlz ⊢
   have HZN:=dq hzn
   clear Z6 b6 hzn HZ
   go_wp2
   go_meet
   exact ⟨za,zc,zn,_,rfl,hlz.1,hlz.2,HZN,HZ6,HS6,HT6,HP6,HR6,HB6⟩
  ·have hmb:(n4.tmod 5==0)=false:=by simp [ho]
   go_wp2
   go_meet
   exact ⟨xa,xc,xn,xs,rfl,hlx.1,hlx.2,HXN,HX5,HS5,HT5,HP5,HR5,HB5⟩
 case rest=>
  obtain ⟨za,zc,zn,z,rfl,hlz1,hlz2,HZN,HZ5,HS5,HT5,HP5,HR5,HB5⟩:=hcut
  clear HX5 hlx
  have hMbs:Mbs B 0 (some (B,0,false):Mr):=⟨0,false,rfl,by omega,by omega⟩
  obtain ⟨M0,hM0⟩:∃ M:Mr,M=(some (B,0,false):Mr):=⟨_,rfl⟩
  rw [←hM0] at HP5 HR5 hMbs
  have HMB0:=dq hMbs
  clear hM0 hMbs
  have Z:=zuW (some ⟨gm,0,none⟩) sa za sc zc M0 s z wc HP5.out HS5.out HZ5.out HT.out
  rw [HN.out,HZN.out] at Z
  have HZ:=dq Z
  clear Z
  go_wp2_with (fail)
  refine HZ.out.mono ?_
  rintro e W6 hh
  obtain ⟨r,hmr,⟨rfl,m6,k6⟩,hrb⟩:=zsf HMB0.out hh
  have HRB:=dq hrb
  have HMB6:=dq hmr
  have HP6:=dq m6
  have HR6:=dq (zoY HP5.out (by decide) k6 (fun _=>trivial) HR5.out)
  have HZ6:=dq (zm0 HP5.out k6 HZ5.out)
  have HS6:=dq (Lins.mk HP5.out mtP k6 HS5.out)
  have HT6:=dq (Lins.mk HP5.out mtP k6 HT5.out)
  have HB6:=dq (HB5.out.trans (k6.below (fun g e=>by injection e with e;injection e with e;omega) HB5.out.size))
  clear hh hmr m6 k6 hrb HZ HP5 HR5 HZ5 HS5 HT5 HB5
  have Z:=zr3 (some ⟨gr,0,none⟩) sa za sc zc M0 s z W6 HR6.out HS6.out HZ6.out HT.out
  rw [HN.out,HZN.out] at Z
  have HZ:=dq Z
  clear Z
  obtain ⟨rb,re,rM⟩:=r
  dsimp only at HP6 HMB6 ⊢
  go_wp2_with (fail)
  refine HZ.out.mono ?_
  rintro e W7 hh
  obtain ⟨rfl,m7,k7⟩:=HRB.out _ _ _ _ hh
  dsimp only at m7 ⊢
  have HR7:=dq m7
  have HP7:=dq (zoY HR6.out (by decide) k7 (fun _=>trivial) HP6.out)
  have HS7:=dq (Lins.mk HR6.out mtR k7 HS6.out)
  have HT7:=dq (Lins.mk HR6.out mtR k7 HT6.out)
  have HB7:=dq (HB6.out.trans (k7.below (fun g e=>by injection e with e;injection e with e;omega) HB6.out.size))
  clear hh m7 k7 HZ HRB HP6 HR6 HZ6 HS6 HT6 HB6
  obtain ⟨S7,o7,hr7,hS0,hS1⟩:=HMB6.out
  subst hr7
  generalize W7=WR at HR7 HP7 HS7 HT7 HB7 ⊢
  have ZS:Hid (∀ V,Below WR.heap.size WR V→Calls Tryz.prog 17 #[.pointer (some ⟨gm,0,none⟩)] V (zhm (.int .i64 S7) V)):=dq (fun V h=>zq0 (HP7.out.below h))
  have ltr:gr<WR.heap.size:=(zbC HR7.out).lt
  have eu:WR.cell? ⟨gr,1,none⟩=some (.int .i64 S7):=Lies.cell (zbC HR7.out) 1
  have eo:WR.cell? ⟨gr,2,none⟩=some (.bool o7):=Lies.cell (zbC HR7.out) 2
  go_upto_region 11 with (fail)
  have bd:Below WR.heap.size WR WR.drew:=⟨rfl,rfl,rfl,Nat.le_refl _,fun _ _=>rfl⟩
  refine wp_region_held_drew (S:=fun w'=>Below WR.heap.size WR w') (by kernel_rfl) bd (fun hHeld=>?_)
  clear hHeld
  refine wpAnyH_take (i:=0) (oi:=⟨some 57,.move (.tmp 16),4,"law.go:34",#[],none⟩) (v:=?_) rfl (by kernel_rfl) (by kernel_rfl) (by kernel_rfl) (fun _ _ _ h=>h) (Or.inl ⟨by rfl,?_⟩) bd ?_
  rotate_left
  ·intro w hSw
   go_simp
   try with_reducible rfl
  try simp only [Act.put,List.setIfInBounds_toArray,List.set_cons_zero,List.set_cons_succ]
  refine wpAnyH_take (i:=1) (oi:=⟨some 58,.move (.tmp 18),4,"law.go:34",#[],none⟩) (v:=?_) rfl (by kernel_rfl) (by kernel_rfl) (by kernel_rfl) (fun _ _ _ h=>h) (Or.inl ⟨by rfl,?_⟩) bd ?_
  rotate_left
  ·intro w hSw
   go_simp
   try with_reducible rfl
  try simp only [Act.put,List.setIfInBounds_toArray,List.set_cons_zero,List.set_cons_succ]
  refine wpAnyH_take (i:=2) (oi:=⟨some 59,.binOp .neq 4 (.tmp 57) (.tmp 58) 4,4,"law.go:34",#[⟨0,.data⟩,⟨1,.data⟩],none⟩) (v:=?_) rfl (by kernel_rfl) (by kernel_rfl) (by kernel_rfl) (fun _ _ _ h=>h) (Or.inl ⟨by rfl,?_⟩) bd ?_
  rotate_left
  ·intro w hSw
   go_simp
   try with_reducible rfl
  try simp only [Act.put,List.setIfInBounds_toArray,List.set_cons_zero,List.set_cons_succ]
  refine wpAnyH_take (i:=3) (oi:=⟨some 60,.move (.tmp 59),4,"law.go:34",#[⟨2,.data⟩],none⟩) (v:=?_) rfl (by kernel_rfl) (by kernel_rfl) (by kernel_rfl) (fun _ _ _ h=>h) (Or.inl ⟨by rfl,?_⟩) bd ?_
  rotate_left
  ·intro w hSw
   go_simp
   try with_reducible rfl
  try simp only [Act.put,List.setIfInBounds_toArray,List.set_cons_zero,List.set_cons_succ]
  refine wpAnyH_take (i:=4) (oi:=⟨some 61,.move (.tmp 17),34,"law.go:34",#[⟨3,.guard⟩],some (3,false)⟩) (v:=?_) rfl (by kernel_rfl) (by kernel_rfl) (by kernel_rfl) (fun _ _ _ h=>h) (Or.inl ⟨by rfl,?_⟩) bd ?_
  rotate_left
  ·intro w hSw
   go_simp
   try with_reducible rfl
  try simp only [Act.put,List.setIfInBounds_toArray,List.set_cons_zero,List.set_cons_succ]
  refine wpAnyH_take (i:=5) (oi:=⟨some 62,.move (.tmp 19),3,"law.go:34",#[⟨3,.guard⟩],some (3,false)⟩) (v:=?_) rfl (by kernel_rfl) (by kernel_rfl) (by kernel_rfl) (fun _ _ _ h=>h) (Or.inl ⟨by rfl,?_⟩) bd ?_
  rotate_left
  ·intro w hSw
   go_simp
   try with_reducible rfl
  try simp only [Act.put,List.setIfInBounds_toArray,List.set_cons_zero,List.set_cons_succ]
  refine wpAnyH_take (i:=6) (oi:=⟨some 63,.binOp .neq 3 (.tmp 61) (.tmp 62) 3,4,"law.go:34",#[⟨4,.data⟩,⟨5,.data⟩,⟨3,.guard⟩],some (3,false)⟩) (v:=?_) rfl (by kernel_rfl) (by kernel_rfl) (by kernel_rfl) (fun _ _ _ h=>h) (Or.inl ⟨by rfl,?_⟩) bd ?_
  rotate_left
  ·intro w hSw
   go_simp
   try with_reducible rfl
  try simp only [Act.put,List.setIfInBounds_toArray,List.set_cons_zero,List.set_cons_succ]
  refine wpAnyH_take (i:=7) (oi:=⟨some 64,.pick (.tmp 60) (.const (.bool true)) (.tmp 63),4,"law.go:34",#[⟨3,.data⟩,⟨6,.data⟩],none⟩) (v:=?_) rfl (by kernel_rfl) (by kernel_rfl) (by kernel_rfl) (fun _ _ _ h=>h) (Or.inl ⟨by rfl,?_⟩) bd ?_
  rotate_left
  ·intro w hSw
   go_simp
   try with_reducible rfl
  try simp only [Act.put,List.setIfInBounds_toArray,List.set_cons_zero,List.set_cons_succ]
  refine wpAnyH_take (i:=8) (oi:=⟨some 65,.move (.tmp 64),4,"law.go:34",#[⟨7,.data⟩,⟨3,.chain⟩],none⟩) (v:=?_) rfl (by kernel_rfl) (by kernel_rfl) (by kernel_rfl) (fun _ _ _ h=>h) (Or.inl ⟨by rfl,?_⟩) bd ?_
  rotate_left
  ·intro w hSw
   go_simp
   try with_reducible rfl
  try simp only [Act.put,List.setIfInBounds_toArray,List.set_cons_zero,List.set_cons_succ]
  refine wpAnyH_take (i:=9) (oi:=⟨some 66,.move (.tmp 13),27,"law.go:34",#[⟨8,.guard⟩],some (8,false)⟩) (v:=?_) rfl (by kernel_rfl) (by kernel_rfl) (by kernel_rfl) (fun _ _ _ h=>h) (Or.inl ⟨by rfl,?_⟩) bd ?_
  rotate_left
  ·intro w hSw
   go_simp
   try with_reducible rfl
  try simp only [Act.put,List.setIfInBounds_toArray,List.set_cons_zero,List.set_cons_succ]
  refine wpAnyH_take (i:=11) (oi:=⟨some 68,.move (.tmp 14),29,"law.go:34",#[⟨8,.guard⟩],some (8,false)⟩) (v:=?_) rfl (by kernel_rfl) (by kernel_rfl) (by kernel_rfl) (fun _ _ _ h=>h) (Or.inl ⟨by rfl,?_⟩) bd ?_
  rotate_left
  ·intro w hSw
   go_simp
   try with_reducible rfl
  try simp only [Act.put,List.setIfInBounds_toArray,List.set_cons_zero,List.set_cons_succ]
  refine wpAnyH_take (i:=12) (oi:=⟨some 69,.nilCheck (.tmp 68),0,"law.go:34",#[⟨11,.data⟩,⟨8,.guard⟩],some (8,false)⟩) (v:=?_) rfl (by kernel_rfl) (by kernel_rfl) (by kernel_rfl) (fun _ _ _ h=>h) (Or.inl ⟨by rfl,?_⟩) bd ?_
  rotate_left
  ·intro w hSw
   go_simp
   try with_reducible rfl
  try simp only [Act.put,List.setIfInBounds_toArray,List.set_cons_zero,List.set_cons_succ]
  refine wpAnyH_take (i:=13) (oi:=⟨some 70,.fieldAddr 41 (.tmp 69) 1,0,"law.go:34",#[⟨12,.data⟩,⟨8,.guard⟩],some (8,false)⟩) (v:=?_) rfl (by kernel_rfl) (by kernel_rfl) (by kernel_rfl) (fun _ _ _ h=>h) (Or.inl ⟨by rfl,?_⟩) bd ?_
  rotate_left
  ·intro w hSw
   go_simp
   try with_reducible rfl
  try simp only [Act.put,List.setIfInBounds_toArray,List.set_cons_zero,List.set_cons_succ]
  refine wpAnyH_take (i:=14) (oi:=⟨some 71,.load 3 (.tmp 70),3,"law.go:34",#[⟨13,.data⟩,⟨8,.guard⟩],some (8,false)⟩) (v:=?_) rfl (by kernel_rfl) (by kernel_rfl) (by kernel_rfl) (fun _ _ _ h=>h) (Or.inl ⟨by rfl,?_⟩) bd ?_
  rotate_left
  ·intro w hSw
   have fu:=(hSw.cell (p:=⟨gr,1,none⟩) ltr).trans eu
   have fo:=(hSw.cell (p:=⟨gr,2,none⟩) ltr).trans eo
   go_simp
   try with_reducible rfl
  try simp only [Act.put,List.setIfInBounds_toArray,List.set_cons_zero,List.set_cons_succ]
  refine wpAnyH_ready (rs:=[10]) (by kernel_rfl) (by simp) ?_
  refine AllReadyH.cons (o:=⟨some 67,.call {callee:=.value (.func 17),args:=#[.tmp 66],argTypes:=#[27]},3,"law.go:34",#[⟨9,.data⟩,⟨8,.chain⟩,⟨8,.guard⟩],some (8,false)⟩) rfl (fun K hK=>?_) AllReadyH.nil
  go_simp
  refine (ZS.out _ bd).mono ?_
  rintro e V10 ⟨rfl,d10⟩
  have b10:Below WR.heap.size WR V10:=bd.trans (d10.mono bd.size)
  go_wp2_with (fail)
  refine hK.out _ _ b10 (fun hHeld=>?_)
  clear hK K hHeld
  try simp only [Act.put,List.setIfInBounds_toArray,List.set_cons_zero,List.set_cons_succ]
  refine wpAnyH_take (i:=15) (oi:=⟨some 72,.binOp .neq 3 (.tmp 67) (.tmp 71) 3,4,"law.go:34",#[⟨10,.data⟩,⟨14,.data⟩,⟨8,.guard⟩],some (8,false)⟩) (v:=?_) rfl (by kernel_rfl) (by kernel_rfl) (by kernel_rfl) (fun _ _ _ h=>h) (Or.inl ⟨by rfl,?_⟩) b10 ?_
  rotate_left
  ·intro w hSw
   go_simp
   try with_reducible rfl
  try simp only [Act.put,List.setIfInBounds_toArray,List.set_cons_zero,List.set_cons_succ]
  refine wpAnyH_take (i:=16) (oi:=⟨some 73,.pick (.tmp 65) (.const (.bool true)) (.tmp 72),4,"law.go:34",#[⟨8,.data⟩,⟨15,.data⟩],none⟩) (v:=?_) rfl (by kernel_rfl) (by kernel_rfl) (by kernel_rfl) (fun _ _ _ h=>h) (Or.inl ⟨by rfl,?_⟩) b10 ?_
  rotate_left
  ·intro w hSw
   go_simp
   try with_reducible rfl
  try simp only [Act.put,List.setIfInBounds_toArray,List.set_cons_zero,List.set_cons_succ]
  refine wpAnyH_done (by kernel_rfl) ?_ _
  have HP8:=dq (HP7.out.below b10)
  have HR8:=dq (HR7.out.below b10)
  have HS8:=dq (HS7.out.below b10)
  have HT8:=dq (HT7.out.below b10)
  have HB8:=dq (HB7.out.trans (b10.mono HB7.out.size))
  clear b10 HP7 HR7 HS7 HT7 HB7 ZS eu eo ltr
  obtain ⟨res,hres,hmb8⟩:=zbe (b:=t) (f:=4000) (B:=B) (S:=0) (by omega) s (some (B,S7,o7):Mr) ⟨S7,o7,rfl,hS0,hS1⟩
  have HRES:=dq hres
  have HMB8:=dq hmb8
  have Z:=zkW _ HP8.out (zq1 htab.out hgm HB8.out) sa sc ta tc s t HS8.out HT8.out HT.out HTT.out (B:=B) (S:=0) ⟨S7,o7,rfl,hS0,hS1⟩ (by omega) (by omega) 4000 (by omega) res hres
  rw [HN.out,HM.out] at Z
  have HZ:=dq Z
  clear Z hres hmb8
  obtain ⟨wok,wv,we,wm⟩:=res
  go_wp2_with (fail)
  refine HZ.out.mono ?_
  rintro e W9 ⟨a9,c9,rfl,B9,m9,k9⟩
  dsimp only at B9 m9 HMB8 ⊢
  have hl9:=B9.le
  have HU9:=dq B9
  have HP9:=dq m9
  have HR9:=dq (zoY HP8.out (by decide) k9 (fun _=>trivial) HR8.out)
  have HS9:=dq (Lins.mk HP8.out mtP k9 HS8.out)
  have HT9:=dq (Lins.mk HP8.out mtP k9 HT8.out)
  have HB9:=dq (HB8.out.trans (k9.below (fun g e=>by injection e with e;injection e with e;omega) HB8.out.size))
  generalize hwl:wv.length=wl at hl9 ⊢
  have HWL:=dq hwl
  clear hwl B9 m9 k9 HZ HP8 HR8 HS8 HT8 HB8
  have Z:=zmV W9 HR9.out sa sc ta tc s t HS9.out HT9.out HT.out HTT.out (B:=B) (S:=0) ⟨S7,o7,rfl,hS0,hS1⟩ (by omega) (by omega) 4000 (by omega) _ HRES.out
  rw [HN.out,HM.out] at Z
  have HZ:=dq Z
  clear Z HRES
  go_wp2_with (fail)
  refine HZ.out.mono ?_
  rintro e W10 ⟨a10,c10,rfl,B10,m10,k10⟩
  dsimp only at B10 m10 ⊢
  rw [HWL.out]
  have hl10:=B10.le
  rw [HWL.out] at hl10
  have HV10:=dq B10
  have HR10:=dq m10
  have HU10:=dq (zqI HR9.out k10 HU9.out)
  have HP10:=dq (zoY HR9.out (by decide) k10 (fun _=>trivial) HP9.out)
  have HS10:=dq (Lins.mk HR9.out mtR k10 HS9.out)
  have HT10:=dq (Lins.mk HR9.out mtR k10 HT9.out)
  have HB10:=dq (HB9.out.trans (k10.below (fun g e=>by injection e with e;injection e with e;omega) HB9.out.size))
  clear B10 m10 k10 HZ HU9 HP9 HR9 HS9 HT9 HB9
  obtain ⟨S8,o8,hr8,hS80,hS81⟩:=HMB8.out
  subst hr8
  generalize W10=WR at HV10 HU10 HR10 HP10 HS10 HT10 HB10 ⊢
  have ZS:Hid (∀ V,Below WR.heap.size WR V→Calls Tryz.prog 17 #[.pointer (some ⟨gm,0,none⟩)] V (zhm (.int .i64 S8) V)):=dq (fun V h=>zq0 (HP10.out.below h))
  have ZE:Hid (∀ V,Below WR.heap.size WR V→Calls Tryz.prog 20 #[.slice a9 wl c9,.slice a10 wl c10] V (zhm (.bool true) V)):=dq (fun V h=>by
   have Z:=zue a9 a10 c9 c10 wv wv V (HU10.out.below h) (HV10.out.below h)
   rw [HWL.out,show ziQ wv wv=true by simp [ziQ]] at Z
   exact Z.mono (fun e w' h=>by
    obtain ⟨h1,q,rfl⟩:=h
    exact ⟨h1,⟨rfl,rfl,rfl,Nat.le_refl _,fun _ _=>rfl⟩⟩))
  have ltr:gr<WR.heap.size:=(zbC HR10.out).lt
  have eu:WR.cell? ⟨gr,1,none⟩=some (.int .i64 S8):=Lies.cell (zbC HR10.out) 1
  have eo:WR.cell? ⟨gr,2,none⟩=some (.bool o8):=Lies.cell (zbC HR10.out) 2
  go_upto_region 15 with (fail)
  have bd:Below WR.heap.size WR WR.drew:=⟨rfl,rfl,rfl,Nat.le_refl _,fun _ _=>rfl⟩
  refine wp_region_held_drew (S:=fun w'=>Below WR.heap.size WR w') (by kernel_rfl) bd (fun hHeld=>?_)
  clear hHeld
  refine wpAnyH_take (i:=0) (oi:=⟨some 90,.move (.tmp 20),4,"law.go:39",#[],none⟩) (v:=?_) rfl (by kernel_rfl) (by kernel_rfl) (by kernel_rfl) (fun _ _ _ h=>h) (Or.inl ⟨by rfl,?_⟩) bd ?_
  rotate_left
  ·intro w hSw
   go_simp
   try with_reducible rfl
  try simp only [Act.put,List.setIfInBounds_toArray,List.set_cons_zero,List.set_cons_succ]
  refine wpAnyH_take (i:=1) (oi:=⟨some 91,.move (.tmp 22),4,"law.go:39",#[],none⟩) (v:=?_) rfl (by kernel_rfl) (by kernel_rfl) (by kernel_rfl) (fun _ _ _ h=>h) (Or.inl ⟨by rfl,?_⟩) bd ?_
  rotate_left
  ·intro w hSw
   go_simp
   try with_reducible rfl
  try simp only [Act.put,List.setIfInBounds_toArray,List.set_cons_zero,List.set_cons_succ]
  refine wpAnyH_take (i:=2) (oi:=⟨some 92,.binOp .neq 4 (.tmp 90) (.tmp 91) 4,4,"law.go:39",#[⟨0,.data⟩,⟨1,.data⟩],none⟩) (v:=?_) rfl (by kernel_rfl) (by kernel_rfl) (by kernel_rfl) (fun _ _ _ h=>h) (Or.inl ⟨by rfl,?_⟩) bd ?_
  rotate_left
  ·intro w hSw
   go_simp
   try with_reducible rfl
  try simp only [Act.put,List.setIfInBounds_toArray,List.set_cons_zero,List.set_cons_succ]
  refine wpAnyH_take (i:=3) (oi:=⟨some 93,.move (.tmp 92),4,"law.go:39",#[⟨2,.data⟩],none⟩) (v:=?_) rfl (by kernel_rfl) (by kernel_rfl) (by kernel_rfl) (fun _ _ _ h=>h) (Or.inl ⟨by rfl,?_⟩) bd ?_
  rotate_left
  ·intro w hSw
   go_simp
   try with_reducible rfl
  try simp only [Act.put,List.setIfInBounds_toArray,List.set_cons_zero,List.set_cons_succ]
  refine wpAnyH_take (i:=4) (oi:=⟨some 94,.move (.tmp 17),34,"law.go:39",#[⟨3,.guard⟩],some (3,false)⟩) (v:=?_) rfl (by kernel_rfl) (by kernel_rfl) (by kernel_rfl) (fun _ _ _ h=>h) (Or.inl ⟨by rfl,?_⟩) bd ?_
  rotate_left
  ·intro w hSw
   go_simp
   try with_reducible rfl
  try simp only [Act.put,List.setIfInBounds_toArray,List.set_cons_zero,List.set_cons_succ]
  refine wpAnyH_take (i:=5) (oi:=⟨some 95,.move (.tmp 19),3,"law.go:39",#[⟨3,.guard⟩],some (3,false)⟩) (v:=?_) rfl (by kernel_rfl) (by kernel_rfl) (by kernel_rfl) (fun _ _ _ h=>h) (Or.inl ⟨by rfl,?_⟩) bd ?_
  rotate_left
  ·intro w hSw
   go_simp
   try with_reducible rfl
  try simp only [Act.put,List.setIfInBounds_toArray,List.set_cons_zero,List.set_cons_succ]
  refine wpAnyH_take (i:=6) (oi:=⟨some 96,.binOp .neq 3 (.tmp 94) (.tmp 95) 3,4,"law.go:39",#[⟨4,.data⟩,⟨5,.data⟩,⟨3,.guard⟩],some (3,false)⟩) (v:=?_) rfl (by kernel_rfl) (by kernel_rfl) (by kernel_rfl) (fun _ _ _ h=>h) (Or.inl ⟨by rfl,?_⟩) bd ?_
  rotate_left
  ·intro w hSw
   go_simp
   try with_reducible rfl
  try simp only [Act.put,List.setIfInBounds_toArray,List.set_cons_zero,List.set_cons_succ]
  refine wpAnyH_take (i:=7) (oi:=⟨some 97,.pick (.tmp 93) (.const (.bool true)) (.tmp 96),4,"law.go:39",#[⟨3,.data⟩,⟨6,.data⟩],none⟩) (v:=?_) rfl (by kernel_rfl) (by kernel_rfl) (by kernel_rfl) (fun _ _ _ h=>h) (Or.inl ⟨by rfl,?_⟩) bd ?_
  rotate_left
  ·intro w hSw
   go_simp
   try with_reducible rfl
  try simp only [Act.put,List.setIfInBounds_toArray,List.set_cons_zero,List.set_cons_succ]
  refine wpAnyH_take (i:=8) (oi:=⟨some 98,.move (.tmp 97),4,"law.go:39",#[⟨7,.data⟩,⟨3,.chain⟩],none⟩) (v:=?_) rfl (by kernel_rfl) (by kernel_rfl) (by kernel_rfl) (fun _ _ _ h=>h) (Or.inl ⟨by rfl,?_⟩) bd ?_
  rotate_left
  ·intro w hSw
   go_simp
   try with_reducible rfl
  try simp only [Act.put,List.setIfInBounds_toArray,List.set_cons_zero,List.set_cons_succ]
  refine wpAnyH_take (i:=9) (oi:=⟨some 99,.move (.tmp 21),31,"law.go:39",#[⟨8,.guard⟩],some (8,false)⟩) (v:=?_) rfl (by kernel_rfl) (by kernel_rfl) (by kernel_rfl) (fun _ _ _ h=>h) (Or.inl ⟨by rfl,?_⟩) bd ?_
  rotate_left
  ·intro w hSw
   go_simp
   try with_reducible rfl
  try simp only [Act.put,List.setIfInBounds_toArray,List.set_cons_zero,List.set_cons_succ]
  refine wpAnyH_take (i:=10) (oi:=⟨some 100,.move (.tmp 23),31,"law.go:39",#[⟨8,.guard⟩],some (8,false)⟩) (v:=?_) rfl (by kernel_rfl) (by kernel_rfl) (by kernel_rfl) (fun _ _ _ h=>h) (Or.inl ⟨by rfl,?_⟩) bd ?_
  rotate_left
  ·intro w hSw
   go_simp
   try with_reducible rfl
  try simp only [Act.put,List.setIfInBounds_toArray,List.set_cons_zero,List.set_cons_succ]
  refine wpAnyH_ready (rs:=[11]) (by kernel_rfl) (by simp) ?_
  refine AllReadyH.cons (o:=⟨some 101,.call {callee:=.value (.func 20),args:=#[.tmp 99,.tmp 100],argTypes:=#[22,22]},4,"law.go:39",#[⟨9,.data⟩,⟨10,.data⟩,⟨8,.chain⟩,⟨8,.guard⟩],some (8,false)⟩) rfl (fun K hK=>?_) AllReadyH.nil
  go_simp
  refine (ZE.out _ bd).mono ?_
  rintro e V11 ⟨rfl,d11⟩
  have b11:Below WR.heap.size WR V11:=bd.trans (d11.mono bd.size)
  go_wp2_with (fail)
  refine hK.out _ _ b11 (fun hHeld=>?_)
  clear hK K hHeld
  try simp only [Act.put,List.setIfInBounds_toArray,List.set_cons_zero,List.set_cons_succ]
  refine wpAnyH_take (i:=12) (oi:=⟨some 102,.unOp .not 4 (.tmp 101),4,"law.go:39",#[⟨11,.data⟩,⟨8,.guard⟩],some (8,false)⟩) (v:=?_) rfl (by kernel_rfl) (by kernel_rfl) (by kernel_rfl) (fun _ _ _ h=>h) (Or.inl ⟨by rfl,?_⟩) b11 ?_
  rotate_left
  ·intro w hSw
   go_simp
   try with_reducible rfl
  try simp only [Act.put,List.setIfInBounds_toArray,List.set_cons_zero,List.set_cons_succ]
  refine wpAnyH_take (i:=13) (oi:=⟨some 103,.pick (.tmp 98) (.const (.bool true)) (.tmp 102),4,"law.go:39",#[⟨8,.data⟩,⟨12,.data⟩],none⟩) (v:=?_) rfl (by kernel_rfl) (by kernel_rfl) (by kernel_rfl) (fun _ _ _ h=>h) (Or.inl ⟨by rfl,?_⟩) b11 ?_
  rotate_left
  ·intro w hSw
   go_simp
   try with_reducible rfl
  try simp only [Act.put,List.setIfInBounds_toArray,List.set_cons_zero,List.set_cons_succ]
  refine wpAnyH_take (i:=14) (oi:=⟨some 104,.move (.tmp 103),4,"law.go:39",#[⟨13,.data⟩,⟨11,.chain⟩],none⟩) (v:=?_) rfl (by kernel_rfl) (by kernel_rfl) (by kernel_rfl) (fun _ _ _ h=>h) (Or.inl ⟨by rfl,?_⟩) b11 ?_
  rotate_left
  ·intro w hSw
   go_simp
   try with_reducible rfl
  try simp only [Act.put,List.setIfInBounds_toArray,List.set_cons_zero,List.set_cons_succ]
  refine wpAnyH_take (i:=15) (oi:=⟨some 105,.move (.tmp 13),27,"law.go:39",#[⟨14,.guard⟩],some (14,false)⟩) (v:=?_) rfl (by kernel_rfl) (by kernel_rfl) (by kernel_rfl) (fun _ _ _ h=>h) (Or.inl ⟨by rfl,?_⟩) b11 ?_
  rotate_left
  ·intro w hSw
   go_simp
   try with_reducible rfl
  try simp only [Act.put,List.setIfInBounds_toArray,List.set_cons_zero,List.set_cons_succ]
  refine wpAnyH_take (i:=17) (oi:=⟨some 107,.move (.tmp 14),29,"law.go:39",#[⟨14,.guard⟩],some (14,false)⟩) (v:=?_) rfl (by kernel_rfl) (by kernel_rfl) (by kernel_rfl) (fun _ _ _ h=>h) (Or.inl ⟨by rfl,?_⟩) b11 ?_
  rotate_left
  ·intro w hSw
   go_simp
   try with_reducible rfl
  try simp only [Act.put,List.setIfInBounds_toArray,List.set_cons_zero,List.set_cons_succ]
  refine wpAnyH_take (i:=18) (oi:=⟨some 108,.nilCheck (.tmp 107),0,"law.go:39",#[⟨17,.data⟩,⟨14,.guard⟩],some (14,false)⟩) (v:=?_) rfl (by kernel_rfl) (by kernel_rfl) (by kernel_rfl) (fun _ _ _ h=>h) (Or.inl ⟨by rfl,?_⟩) b11 ?_
  rotate_left
  ·intro w hSw
   go_simp
   try with_reducible rfl
  try simp only [Act.put,List.setIfInBounds_toArray,List.set_cons_zero,List.set_cons_succ]
  refine wpAnyH_take (i:=19) (oi:=⟨some 109,.fieldAddr 41 (.tmp 108) 1,0,"law.go:39",#[⟨18,.data⟩,⟨14,.guard⟩],some (14,false)⟩) (v:=?_) rfl (by kernel_rfl) (by kernel_rfl) (by kernel_rfl) (fun _ _ _ h=>h) (Or.inl ⟨by rfl,?_⟩) b11 ?_
  rotate_left
  ·intro w hSw
   go_simp
   try with_reducible rfl
  try simp only [Act.put,List.setIfInBounds_toArray,List.set_cons_zero,List.set_cons_succ]
  refine wpAnyH_take (i:=20) (oi:=⟨some 110,.load 3 (.tmp 109),3,"law.go:39",#[⟨19,.data⟩,⟨14,.guard⟩],some (14,false)⟩) (v:=?_) rfl (by kernel_rfl) (by kernel_rfl) (by kernel_rfl) (fun _ _ _ h=>h) (Or.inl ⟨by rfl,?_⟩) b11 ?_
  rotate_left
  ·intro w hSw
   have fu:=(hSw.cell (p:=⟨gr,1,none⟩) ltr).trans eu
   have fo:=(hSw.cell (p:=⟨gr,2,none⟩) ltr).trans eo
   go_simp
   try with_reducible rfl
  try simp only [Act.put,List.setIfInBounds_toArray,List.set_cons_zero,List.set_cons_succ]
  refine wpAnyH_ready (rs:=[16]) (by kernel_rfl) (by simp) ?_
  refine AllReadyH.cons (o:=⟨some 106,.call {callee:=.value (.func 17),args:=#[.tmp 105],argTypes:=#[27]},3,"law.go:39",#[⟨15,.data⟩,⟨14,.chain⟩,⟨14,.guard⟩],some (14,false)⟩) rfl (fun K hK=>?_) AllReadyH.nil
  go_simp
  refine (ZS.out _ b11).mono ?_
  rintro e V16 ⟨rfl,d16⟩
  have b16:Below WR.heap.size WR V16:=b11.trans (d16.mono b11.size)
  go_wp2_with (fail)
  refine hK.out _ _ b16 (fun hHeld=>?_)
  clear hK K hHeld
  try simp only [Act.put,List.setIfInBounds_toArray,List.set_cons_zero,List.set_cons_succ]
  refine wpAnyH_take (i:=21) (oi:=⟨some 111,.binOp .neq 3 (.tmp 106) (.tmp 110) 3,4,"law.go:39",#[⟨16,.data⟩,⟨20,.data⟩,⟨14,.guard⟩],some (14,false)⟩) (v:=?_) rfl (by kernel_rfl) (by kernel_rfl) (by kernel_rfl) (fun _ _ _ h=>h) (Or.inl ⟨by rfl,?_⟩) b16 ?_
  rotate_left
  ·intro w hSw
   go_simp
   try with_reducible rfl
  try simp only [Act.put,List.setIfInBounds_toArray,List.set_cons_zero,List.set_cons_succ]
  refine wpAnyH_take (i:=22) (oi:=⟨some 112,.pick (.tmp 104) (.const (.bool true)) (.tmp 111),4,"law.go:39",#[⟨14,.data⟩,⟨21,.data⟩],none⟩) (v:=?_) rfl (by kernel_rfl) (by kernel_rfl) (by kernel_rfl) (fun _ _ _ h=>h) (Or.inl ⟨by rfl,?_⟩) b16 ?_
  rotate_left
  ·intro w hSw
   go_simp
   try with_reducible rfl
  try simp only [Act.put,List.setIfInBounds_toArray,List.set_cons_zero,List.set_cons_succ]
  refine wpAnyH_done (by kernel_rfl) ?_ _
  have HP11:=dq (HP10.out.below b16)
  have HR11:=dq (HR10.out.below b16)
  have HS11:=dq (HS10.out.below b16)
  have HT11:=dq (HT10.out.below b16)
  have HB11:=dq (HB10.out.trans (b16.mono HB10.out.size))
  clear b16 HP10 HR10 HS10 HT10 HB10 HU10 HV10 ZS ZE eu eo ltr
  obtain ⟨res,hres,hmb11⟩:=zqY (a:=s) (b:=t) (f:=4000) (B:=B) (S:=0) (by omega) (M:=(some (B,S8,o8):Mr)) ⟨S8,o8,rfl,hS80,hS81⟩
  have HRES:=dq hres
  have HMB11:=dq hmb11
  have Z:=zuL _ HP11.out (zq1 htab.out hgm HB11.out) sa sc ta tc s t HS11.out HT11.out HT.out HTT.out (B:=B) (S:=0) ⟨S8,o8,rfl,hS80,hS81⟩ (by omega) (by omega) 4000 (by omega) res hres
  rw [HN.out,HM.out] at Z
  have HZ:=dq Z
  clear Z hres hmb11
  obtain ⟨sok,se,sm⟩:=res
  go_wp2_with (fail)
  refine HZ.out.mono ?_
  rintro e W12 ⟨rfl,m12,k12⟩
  dsimp only at m12 HMB11 ⊢
  have HP12:=dq m12
  have HR12:=dq (zoY HP11.out (by decide) k12 (fun _=>trivial) HR11.out)
  have HS12:=dq (Lins.mk HP11.out mtP k12 HS11.out)
  have HT12:=dq (Lins.mk HP11.out mtP k12 HT11.out)
  have HB12:=dq (HB11.out.trans (k12.below (fun g e=>by injection e with e;injection e with e;omega) HB11.out.size))
  clear m12 k12 HZ HP11 HR11 HS11 HT11 HB11
  have Z:=zuU W12 HR12.out sa sc ta tc s t HS12.out HT12.out HT.out HTT.out (B:=B) (S:=0) ⟨S8,o8,rfl,hS80,hS81⟩ (by omega) (by omega) 4000 (by omega) _ HRES.out
  rw [HN.out,HM.out] at Z
  have HZ:=dq Z
  clear Z HRES
  go_wp2_with (fail)
  refine HZ.out.mono ?_
  rintro e W13 ⟨rfl,m13,k13⟩
  dsimp only at m13 ⊢
  have HR13:=dq m13
  have HP13:=dq (zoY HR12.out (by decide) k13 (fun _=>trivial) HP12.out)
  have HB13:=dq (HB12.out.trans (k13.below (fun g e=>by injection e with e;injection e with e;omega) HB12.out.size))
  clear m13 k13 HZ HP12 HR12 HS12 HT12 HB12
  obtain ⟨S9,o9,hr9,hS90,hS91⟩:=HMB11.out
  subst hr9
  generalize W13=WR at HR13 HP13 HB13 ⊢
  have ZS:Hid (∀ V,Below WR.heap.size WR V→Calls Tryz.prog 17 #[.pointer (some ⟨gm,0,none⟩)] V (zhm (.int .i64 S9) V)):=dq (fun V h=>zq0 (HP13.out.below h))
  have ZO:Hid (∀ V,Below WR.heap.size WR V→Calls Tryz.prog 23 #[.pointer (some ⟨gm,0,none⟩)] V (zhm (.bool o9) V)):=dq (fun V h=>zvb (HP13.out.below h))
  have ZW:Hid (∀ V,Below WR.heap.size WR V→Calls Tryz.prog 24 #[] V (zhm (.bool true) V)):=dq (fun V h=>zt3 V)
  have ltr:gr<WR.heap.size:=(zbC HR13.out).lt
  have eu:WR.cell? ⟨gr,1,none⟩=some (.int .i64 S9):=Lies.cell (zbC HR13.out) 1
  have eo:WR.cell? ⟨gr,2,none⟩=some (.bool o9):=Lies.cell (zbC HR13.out) 2
  go_upto_region 19 with (fail)
  have bd:Below WR.heap.size WR WR.drew:=⟨rfl,rfl,rfl,Nat.le_refl _,fun _ _=>rfl⟩
  refine wp_region_held_drew (S:=fun w'=>Below WR.heap.size WR w') (by kernel_rfl) bd (fun hHeld=>?_)
  clear hHeld
  refine wpAnyH_take (i:=0) (oi:=⟨some 127,.move (.tmp 16),4,"law.go:44",#[],none⟩) (v:=?_) rfl (by kernel_rfl) (by kernel_rfl) (by kernel_rfl) (fun _ _ _ h=>h) (Or.inl ⟨by rfl,?_⟩) bd ?_
  rotate_left
  ·intro w hSw
   go_simp
   try with_reducible rfl
  try simp only [Act.put,List.setIfInBounds_toArray,List.set_cons_zero,List.set_cons_succ]
  refine wpAnyH_take (i:=1) (oi:=⟨some 128,.move (.tmp 18),4,"law.go:44",#[],none⟩) (v:=?_) rfl (by kernel_rfl) (by kernel_rfl) (by kernel_rfl) (fun _ _ _ h=>h) (Or.inl ⟨by rfl,?_⟩) bd ?_
  rotate_left
  ·intro w hSw
   go_simp
   try with_reducible rfl
  try simp only [Act.put,List.setIfInBounds_toArray,List.set_cons_zero,List.set_cons_succ]
  refine wpAnyH_take (i:=2) (oi:=⟨some 129,.binOp .eql 4 (.tmp 127) (.tmp 128) 4,4,"law.go:44",#[⟨0,.data⟩,⟨1,.data⟩],none⟩) (v:=?_) rfl (by kernel_rfl) (by kernel_rfl) (by kernel_rfl) (fun _ _ _ h=>h) (Or.inl ⟨by rfl,?_⟩) bd ?_
  rotate_left
  ·intro w hSw
   go_simp
   try with_reducible rfl
  try simp only [Act.put,List.setIfInBounds_toArray,List.set_cons_zero,List.set_cons_succ]
  refine wpAnyH_take (i:=3) (oi:=⟨some 130,.move (.tmp 129),4,"law.go:44",#[⟨2,.data⟩],none⟩) (v:=?_) rfl (by kernel_rfl) (by kernel_rfl) (by kernel_rfl) (fun _ _ _ h=>h) (Or.inl ⟨by rfl,?_⟩) bd ?_
  rotate_left
  ·intro w hSw
   go_simp
   try with_reducible rfl
  try simp only [Act.put,List.setIfInBounds_toArray,List.set_cons_zero,List.set_cons_succ]
  refine wpAnyH_take (i:=4) (oi:=⟨some 131,.move (.tmp 17),34,"law.go:44",#[⟨3,.guard⟩],some (3,true)⟩) (v:=?_) rfl (by kernel_rfl) (by kernel_rfl) (by kernel_rfl) (fun _ _ _ h=>h) (Or.inl ⟨by rfl,?_⟩) bd ?_
  rotate_left
  ·intro w hSw
   go_simp
   try with_reducible rfl
  try simp only [Act.put,List.setIfInBounds_toArray,List.set_cons_zero,List.set_cons_succ]
  refine wpAnyH_take (i:=5) (oi:=⟨some 132,.move (.tmp 19),3,"law.go:44",#[⟨3,.guard⟩],some (3,true)⟩) (v:=?_) rfl (by kernel_rfl) (by kernel_rfl) (by kernel_rfl) (fun _ _ _ h=>h) (Or.inl ⟨by rfl,?_⟩) bd ?_
  rotate_left
  ·intro w hSw
   go_simp
   try with_reducible rfl
  try simp only [Act.put,List.setIfInBounds_toArray,List.set_cons_zero,List.set_cons_succ]
  refine wpAnyH_take (i:=6) (oi:=⟨some 133,.binOp .eql 3 (.tmp 131) (.tmp 132) 3,4,"law.go:44",#[⟨4,.data⟩,⟨5,.data⟩,⟨3,.guard⟩],some (3,true)⟩) (v:=?_) rfl (by kernel_rfl) (by kernel_rfl) (by kernel_rfl) (fun _ _ _ h=>h) (Or.inl ⟨by rfl,?_⟩) bd ?_
  rotate_left
  ·intro w hSw
   go_simp
   try with_reducible rfl
  try simp only [Act.put,List.setIfInBounds_toArray,List.set_cons_zero,List.set_cons_succ]
  refine wpAnyH_take (i:=7) (oi:=⟨some 134,.pick (.tmp 130) (.tmp 133) (.const (.bool false)),4,"law.go:44",#[⟨3,.data⟩,⟨6,.data⟩],none⟩) (v:=?_) rfl (by kernel_rfl) (by kernel_rfl) (by kernel_rfl) (fun _ _ _ h=>h) (Or.inl ⟨by rfl,?_⟩) bd ?_
  rotate_left
  ·intro w hSw
   go_simp
   try with_reducible rfl
  try simp only [Act.put,List.setIfInBounds_toArray,List.set_cons_zero,List.set_cons_succ]
  refine wpAnyH_take (i:=8) (oi:=⟨some 135,.move (.tmp 134),4,"law.go:44",#[⟨7,.data⟩,⟨3,.chain⟩],none⟩) (v:=?_) rfl (by kernel_rfl) (by kernel_rfl) (by kernel_rfl) (fun _ _ _ h=>h) (Or.inl ⟨by rfl,?_⟩) bd ?_
  rotate_left
  ·intro w hSw
   go_simp
   try with_reducible rfl
  try simp only [Act.put,List.setIfInBounds_toArray,List.set_cons_zero,List.set_cons_succ]
  refine wpAnyH_take (i:=9) (oi:=⟨some 136,.move (.tmp 13),27,"law.go:44",#[⟨8,.guard⟩],some (8,true)⟩) (v:=?_) rfl (by kernel_rfl) (by kernel_rfl) (by kernel_rfl) (fun _ _ _ h=>h) (Or.inl ⟨by rfl,?_⟩) bd ?_
  rotate_left
  ·intro w hSw
   go_simp
   try with_reducible rfl
  try simp only [Act.put,List.setIfInBounds_toArray,List.set_cons_zero,List.set_cons_succ]
  refine wpAnyH_take (i:=11) (oi:=⟨some 138,.move (.tmp 14),29,"law.go:44",#[⟨8,.guard⟩],some (8,true)⟩) (v:=?_) rfl (by kernel_rfl) (by kernel_rfl) (by kernel_rfl) (fun _ _ _ h=>h) (Or.inl ⟨by rfl,?_⟩) bd ?_
  rotate_left
  ·intro w hSw
   go_simp
   try with_reducible rfl
  try simp only [Act.put,List.setIfInBounds_toArray,List.set_cons_zero,List.set_cons_succ]
  refine wpAnyH_take (i:=12) (oi:=⟨some 139,.nilCheck (.tmp 138),0,"law.go:44",#[⟨11,.data⟩,⟨8,.guard⟩],some (8,true)⟩) (v:=?_) rfl (by kernel_rfl) (by kernel_rfl) (by kernel_rfl) (fun _ _ _ h=>h) (Or.inl ⟨by rfl,?_⟩) bd ?_
  rotate_left
  ·intro w hSw
   go_simp
   try with_reducible rfl
  try simp only [Act.put,List.setIfInBounds_toArray,List.set_cons_zero,List.set_cons_succ]
  refine wpAnyH_take (i:=13) (oi:=⟨some 140,.fieldAddr 41 (.tmp 139) 1,0,"law.go:44",#[⟨12,.data⟩,⟨8,.guard⟩],some (8,true)⟩) (v:=?_) rfl (by kernel_rfl) (by kernel_rfl) (by kernel_rfl) (fun _ _ _ h=>h) (Or.inl ⟨by rfl,?_⟩) bd ?_
  rotate_left
  ·intro w hSw
   go_simp
   try with_reducible rfl
  try simp only [Act.put,List.setIfInBounds_toArray,List.set_cons_zero,List.set_cons_succ]
  refine wpAnyH_take (i:=14) (oi:=⟨some 141,.load 3 (.tmp 140),3,"law.go:44",#[⟨13,.data⟩,⟨8,.guard⟩],some (8,true)⟩) (v:=?_) rfl (by kernel_rfl) (by kernel_rfl) (by kernel_rfl) (fun _ _ _ h=>h) (Or.inl ⟨by rfl,?_⟩) bd ?_
  rotate_left
  ·intro w hSw
   have fu:=(hSw.cell (p:=⟨gr,1,none⟩) ltr).trans eu
   have fo:=(hSw.cell (p:=⟨gr,2,none⟩) ltr).trans eo
   go_simp
   try with_reducible rfl
  try simp only [Act.put,List.setIfInBounds_toArray,List.set_cons_zero,List.set_cons_succ]
  refine wpAnyH_ready (rs:=[10]) (by kernel_rfl) (by simp) ?_
  refine AllReadyH.cons (o:=⟨some 137,.call {callee:=.value (.func 17),args:=#[.tmp 136],argTypes:=#[27]},3,"law.go:44",#[⟨9,.data⟩,⟨8,.chain⟩,⟨8,.guard⟩],some (8,true)⟩) rfl (fun K hK=>?_) AllReadyH.nil
  go_simp
  refine (ZS.out _ bd).mono ?_
  rintro e V10 ⟨rfl,d10⟩
  have b10:Below WR.heap.size WR V10:=bd.trans (d10.mono bd.size)
  go_wp2_with (fail)
  refine hK.out _ _ b10 (fun hHeld=>?_)
  clear hK K hHeld
  try simp only [Act.put,List.setIfInBounds_toArray,List.set_cons_zero,List.set_cons_succ]
  refine wpAnyH_take (i:=15) (oi:=⟨some 142,.binOp .eql 3 (.tmp 137) (.tmp 141) 3,4,"law.go:44",#[⟨10,.data⟩,⟨14,.data⟩,⟨8,.guard⟩],some (8,true)⟩) (v:=?_) rfl (by kernel_rfl) (by kernel_rfl) (by kernel_rfl) (fun _ _ _ h=>h) (Or.inl ⟨by rfl,?_⟩) b10 ?_
  rotate_left
  ·intro w hSw
   go_simp
   try with_reducible rfl
  try simp only [Act.put,List.setIfInBounds_toArray,List.set_cons_zero,List.set_cons_succ]
  refine wpAnyH_take (i:=16) (oi:=⟨some 143,.pick (.tmp 135) (.tmp 142) (.const (.bool false)),4,"law.go:44",#[⟨8,.data⟩,⟨15,.data⟩],none⟩) (v:=?_) rfl (by kernel_rfl) (by kernel_rfl) (by kernel_rfl) (fun _ _ _ h=>h) (Or.inl ⟨by rfl,?_⟩) b10 ?_
  rotate_left
  ·intro w hSw
   go_simp
   try with_reducible rfl
  try simp only [Act.put,List.setIfInBounds_toArray,List.set_cons_zero,List.set_cons_succ]
  refine wpAnyH_take (i:=17) (oi:=⟨some 144,.move (.tmp 143),4,"law.go:44",#[⟨16,.data⟩,⟨10,.chain⟩],none⟩) (v:=?_) rfl (by kernel_rfl) (by kernel_rfl) (by kernel_rfl) (fun _ _ _ h=>h) (Or.inl ⟨by rfl,?_⟩) b10 ?_
  rotate_left
  ·intro w hSw
   go_simp
   try with_reducible rfl
  try simp only [Act.put,List.setIfInBounds_toArray,List.set_cons_zero,List.set_cons_succ]
  refine wpAnyH_take (i:=18) (oi:=⟨some 145,.move (.tmp 13),27,"law.go:44",#[⟨17,.guard⟩],some (17,true)⟩) (v:=?_) rfl (by kernel_rfl) (by kernel_rfl) (by kernel_rfl) (fun _ _ _ h=>h) (Or.inl ⟨by rfl,?_⟩) b10 ?_
  rotate_left
  ·intro w hSw
   go_simp
   try with_reducible rfl
  try simp only [Act.put,List.setIfInBounds_toArray,List.set_cons_zero,List.set_cons_succ]
  refine wpAnyH_take (i:=20) (oi:=⟨some 147,.move (.tmp 14),29,"law.go:44",#[⟨17,.guard⟩],some (17,true)⟩) (v:=?_) rfl (by kernel_rfl) (by kernel_rfl) (by kernel_rfl) (fun _ _ _ h=>h) (Or.inl ⟨by rfl,?_⟩) b10 ?_
  rotate_left
  ·intro w hSw
   go_simp
   try with_reducible rfl
  try simp only [Act.put,List.setIfInBounds_toArray,List.set_cons_zero,List.set_cons_succ]
  refine wpAnyH_take (i:=21) (oi:=⟨some 148,.nilCheck (.tmp 147),0,"law.go:44",#[⟨20,.data⟩,⟨17,.guard⟩],some (17,true)⟩) (v:=?_) rfl (by kernel_rfl) (by kernel_rfl) (by kernel_rfl) (fun _ _ _ h=>h) (Or.inl ⟨by rfl,?_⟩) b10 ?_
  rotate_left
  ·intro w hSw
   go_simp
   try with_reducible rfl
  try simp only [Act.put,List.setIfInBounds_toArray,List.set_cons_zero,List.set_cons_succ]
  refine wpAnyH_take (i:=22) (oi:=⟨some 149,.fieldAddr 41 (.tmp 148) 2,0,"law.go:44",#[⟨21,.data⟩,⟨17,.guard⟩],some (17,true)⟩) (v:=?_) rfl (by kernel_rfl) (by kernel_rfl) (by kernel_rfl) (fun _ _ _ h=>h) (Or.inl ⟨by rfl,?_⟩) b10 ?_
  rotate_left
  ·intro w hSw
   go_simp
   try with_reducible rfl
  try simp only [Act.put,List.setIfInBounds_toArray,List.set_cons_zero,List.set_cons_succ]
  refine wpAnyH_take (i:=23) (oi:=⟨some 150,.load 4 (.tmp 149),4,"law.go:44",#[⟨22,.data⟩,⟨17,.guard⟩],some (17,true)⟩) (v:=?_) rfl (by kernel_rfl) (by kernel_rfl) (by kernel_rfl) (fun _ _ _ h=>h) (Or.inl ⟨by rfl,?_⟩) b10 ?_
  rotate_left
  ·intro w hSw
   have fu:=(hSw.cell (p:=⟨gr,1,none⟩) ltr).trans eu
   have fo:=(hSw.cell (p:=⟨gr,2,none⟩) ltr).trans eo
   go_simp
   try with_reducible rfl
  try simp only [Act.put,List.setIfInBounds_toArray,List.set_cons_zero,List.set_cons_succ]
  refine wpAnyH_ready (rs:=[19]) (by kernel_rfl) (by simp) ?_
  refine AllReadyH.cons (o:=⟨some 146,.call {callee:=.value (.func 23),args:=#[.tmp 145],argTypes:=#[27]},4,"law.go:44",#[⟨18,.data⟩,⟨17,.chain⟩,⟨17,.guard⟩],some (17,true)⟩) rfl (fun K hK=>?_) AllReadyH.nil
  go_simp
  refine (ZO.out _ b10).mono ?_
  rintro e V19 ⟨rfl,d19⟩
  have b19:Below WR.heap.size WR V19:=b10.trans (d19.mono b10.size)
  go_wp2_with (fail)
  refine hK.out _ _ b19 (fun hHeld=>?_)
  clear hK K hHeld
  try simp only [Act.put,List.setIfInBounds_toArray,List.set_cons_zero,List.set_cons_succ]
  refine wpAnyH_take (i:=24) (oi:=⟨some 151,.binOp .eql 4 (.tmp 146) (.tmp 150) 4,4,"law.go:44",#[⟨19,.data⟩,⟨23,.data⟩,⟨17,.guard⟩],some (17,true)⟩) (v:=?_) rfl (by kernel_rfl) (by kernel_rfl) (by kernel_rfl) (fun _ _ _ h=>h) (Or.inl ⟨by rfl,?_⟩) b19 ?_
  rotate_left
  ·intro w hSw
   go_simp
   try with_reducible rfl
  try simp only [Act.put,List.setIfInBounds_toArray,List.set_cons_zero,List.set_cons_succ]
  refine wpAnyH_take (i:=25) (oi:=⟨some 152,.pick (.tmp 144) (.tmp 151) (.const (.bool false)),4,"law.go:44",#[⟨17,.data⟩,⟨24,.data⟩],none⟩) (v:=?_) rfl (by kernel_rfl) (by kernel_rfl) (by kernel_rfl) (fun _ _ _ h=>h) (Or.inl ⟨by rfl,?_⟩) b19 ?_
  rotate_left
  ·intro w hSw
   go_simp
   try with_reducible rfl
  try simp only [Act.put,List.setIfInBounds_toArray,List.set_cons_zero,List.set_cons_succ]
  refine wpAnyH_take (i:=26) (oi:=⟨some 153,.move (.tmp 152),4,"law.go:44",#[⟨25,.data⟩,⟨19,.chain⟩],none⟩) (v:=?_) rfl (by kernel_rfl) (by kernel_rfl) (by kernel_rfl) (fun _ _ _ h=>h) (Or.inl ⟨by rfl,?_⟩) b19 ?_
  rotate_left
  ·intro w hSw
   go_simp
   try with_reducible rfl
  try simp only [Act.put,List.setIfInBounds_toArray,List.set_cons_zero,List.set_cons_succ]
  refine wpAnyH_ready (rs:=[27]) (by kernel_rfl) (by simp) ?_
  refine AllReadyH.cons (o:=⟨some 154,.call {callee:=.value (.func 24),args:=#[],argTypes:=#[]},4,"law.go:44",#[⟨26,.chain⟩,⟨26,.guard⟩],some (26,true)⟩) rfl (fun K hK=>?_) AllReadyH.nil
  go_simp
  refine (ZW.out _ b19).mono ?_
  rintro e V27 ⟨rfl,d27⟩
  have b27:Below WR.heap.size WR V27:=b19.trans (d27.mono b19.size)
  go_wp2_with (fail)
  refine hK.out _ _ b27 (fun hHeld=>?_)
  clear hK K hHeld
  try simp only [Act.put,List.setIfInBounds_toArray,List.set_cons_zero,List.set_cons_succ]
  refine wpAnyH_take (i:=28) (oi:=⟨some 155,.pick (.tmp 153) (.tmp 154) (.const (.bool false)),4,"law.go:44",#[⟨26,.data⟩,⟨27,.data⟩],none⟩) (v:=?_) rfl (by kernel_rfl) (by kernel_rfl) (by kernel_rfl) (fun _ _ _ h=>h) (Or.inl ⟨by rfl,?_⟩) b27 ?_
  rotate_left
  ·intro w hSw
   go_simp
   try with_reducible rfl
  try simp only [Act.put,List.setIfInBounds_toArray,List.set_cons_zero,List.set_cons_succ]
  refine wpAnyH_take (i:=29) (oi:=⟨some 10,.assign (.tmp 155),4,"law.go:44",#[⟨28,.data⟩,⟨27,.chain⟩,⟨0,.phase⟩,⟨1,.phase⟩,⟨2,.phase⟩,⟨3,.phase⟩,⟨4,.phase⟩,⟨5,.phase⟩,⟨6,.phase⟩,⟨7,.phase⟩,⟨8,.phase⟩,⟨9,.phase⟩,⟨10,.phase⟩,⟨11,.phase⟩,⟨12,.phase⟩,⟨13,.phase⟩,⟨14,.phase⟩,⟨15,.phase⟩,⟨16,.phase⟩,⟨17,.phase⟩,⟨18,.phase⟩,⟨19,.phase⟩,⟨20,.phase⟩,⟨21,.phase⟩,⟨22,.phase⟩,⟨23,.phase⟩,⟨24,.phase⟩,⟨25,.phase⟩,⟨26,.phase⟩,⟨27,.phase⟩,⟨28,.phase⟩],none⟩) (v:=?_) rfl (by kernel_rfl) (by kernel_rfl) (by kernel_rfl) (fun _ _ _ h=>h) (Or.inl ⟨by rfl,?_⟩) b27 ?_
  rotate_left
  ·intro w hSw
   go_simp
   try with_reducible rfl
  try simp only [Act.put,List.setIfInBounds_toArray,List.set_cons_zero,List.set_cons_succ]
  refine wpAnyH_done (by kernel_rfl) ?_ _
  have HF:=dq (HB13.out.trans (b27.mono HB13.out.size))
  clear b27
  go_wp2
  go_ret
  exact ⟨rfl,HF.out⟩
end Go.Proofs.YtmnkjekjknhhjaaGreatDoor
