import Derived.Test.YtmnkjekjknhhjaaGreatDoorVc
import Derived.Test.YtmnkjekjknhhjaaGreatDoorTq
namespace Go.Proofs.YtmnkjekjknhhjaaGreatDoor
open Go.ChangeShapes Go.WideShapes Go.ChangeAt Go.RowKit
def zd8:Oper:=⟨some 17,.fieldAddr 111 (.tmp 6) 0,0,"auto.go:39",#[],none⟩
def zd9:Oper:=⟨some 18,.load 3 (.tmp 17),3,"auto.go:39",#[⟨0,.data⟩],none⟩
def zea:Oper:=⟨some 19,.binOp .lss 3 (.tmp 18) (.const (.int .i64 0)) 3,4,"auto.go:39",#[⟨1,.data⟩],none⟩
def zeb:Oper:=⟨some 20,.move (.tmp 19),4,"auto.go:39",#[⟨2,.data⟩],none⟩
def zeD:Oper:=⟨some 21,.fieldAddr 111 (.tmp 6) 0,0,"auto.go:39",#[⟨3,.guard⟩],some (3,false)⟩
def zeE:Oper:=⟨some 22,.load 3 (.tmp 21),3,"auto.go:39",#[⟨4,.data⟩,⟨3,.guard⟩],some (3,false)⟩
def zeF:Oper:=⟨some 23,.move (.tmp 0),24,"auto.go:39",#[⟨3,.guard⟩],some (3,false)⟩
def zeG:Oper:=⟨some 24,.call {callee:=.builtin .len,args:=#[.tmp 23],argTypes:=#[24]},3,"auto.go:39",#[⟨6,.data⟩,⟨3,.guard⟩],some (3,false)⟩
def zeH:Oper:=⟨some 25,.binOp .geq 3 (.tmp 22) (.tmp 24) 3,4,"auto.go:39",#[⟨5,.data⟩,⟨7,.data⟩,⟨3,.guard⟩],some (3,false)⟩
def zec:Oper:=⟨some 26,.pick (.tmp 20) (.const (.bool true)) (.tmp 25),4,"auto.go:39",#[⟨3,.data⟩,⟨8,.data⟩],none⟩
def zbN:Oper:=⟨some 27,.move (.tmp 26),4,"auto.go:39",#[⟨9,.data⟩,⟨3,.chain⟩],none⟩
def zcr:Oper:=⟨some 28,.fieldAddr 111 (.tmp 6) 1,0,"auto.go:39",#[⟨10,.guard⟩],some (10,false)⟩
def zcs:Oper:=⟨some 29,.load 31 (.tmp 28),31,"auto.go:39",#[⟨11,.data⟩,⟨10,.guard⟩],some (10,false)⟩
def zct:Oper:=⟨some 30,.call {callee:=.value (.func 40),args:=#[.tmp 29],argTypes:=#[31]},4,"auto.go:39",#[⟨12,.data⟩,⟨10,.chain⟩,⟨10,.guard⟩],some (10,false)⟩
def zcu:Oper:=⟨some 31,.unOp .not 4 (.tmp 30),4,"auto.go:39",#[⟨13,.data⟩,⟨10,.guard⟩],some (10,false)⟩
def zbO:Oper:=⟨some 32,.pick (.tmp 27) (.const (.bool true)) (.tmp 31),4,"auto.go:39",#[⟨10,.data⟩,⟨14,.data⟩],none⟩
def zbP:Oper:=⟨some 33,.move (.tmp 32),4,"auto.go:39",#[⟨15,.data⟩,⟨13,.chain⟩],none⟩
def zcX:Oper:=⟨some 34,.move (.tmp 5),3,"auto.go:39",#[⟨16,.guard⟩],some (16,false)⟩
def zcY:Oper:=⟨some 35,.binOp .gtr 3 (.tmp 34) (.const (.int .i64 0)) 3,4,"auto.go:39",#[⟨17,.data⟩,⟨16,.guard⟩],some (16,false)⟩
def zcZ:Oper:=⟨some 36,.move (.tmp 35),4,"auto.go:39",#[⟨18,.data⟩,⟨16,.chain⟩,⟨16,.guard⟩],some (16,false)⟩
def zdl:Oper:=⟨some 37,.move (.tmp 1),77,"auto.go:39",#[⟨19,.guard⟩],some (19,true)⟩
def zdm:Oper:=⟨some 38,.move (.tmp 5),3,"auto.go:39",#[⟨19,.guard⟩],some (19,true)⟩
def zdn:Oper:=⟨some 39,.binOp .sub 3 (.tmp 38) (.const (.int .i64 1)) 3,3,"auto.go:39",#[⟨21,.data⟩,⟨19,.guard⟩],some (19,true)⟩
def zdo:Oper:=⟨some 40,.indexAddr 77 (.tmp 37) (.tmp 39),0,"auto.go:39",#[⟨20,.data⟩,⟨22,.data⟩,⟨19,.guard⟩],some (19,true)⟩
def zdp:Oper:=⟨some 41,.load 111 (.tmp 40),111,"auto.go:39",#[⟨23,.data⟩,⟨19,.guard⟩],some (19,true)⟩
def zdq:Oper:=⟨some 42,.load 111 (.tmp 6),111,"auto.go:39",#[⟨19,.guard⟩],some (19,true)⟩
def zdr:Oper:=⟨some 43,.call {callee:=.value (.func 109),args:=#[.tmp 41,.tmp 42],argTypes:=#[111,111]},3,"auto.go:39",#[⟨24,.data⟩,⟨25,.data⟩,⟨19,.chain⟩,⟨19,.guard⟩],some (19,true)⟩
def zds:Oper:=⟨some 44,.binOp .geq 3 (.tmp 43) (.const (.int .i64 0)) 3,4,"auto.go:39",#[⟨26,.data⟩,⟨19,.guard⟩],some (19,true)⟩
def zc0:Oper:=⟨some 45,.pick (.tmp 36) (.tmp 44) (.const (.bool false)),4,"auto.go:39",#[⟨19,.data⟩,⟨27,.data⟩,⟨16,.guard⟩],some (16,false)⟩
def zbQ:Oper:=⟨some 46,.pick (.tmp 33) (.const (.bool true)) (.tmp 45),4,"auto.go:39",#[⟨16,.data⟩,⟨28,.data⟩],none⟩
set_option maxRecDepth 100000 in
set_option maxHeartbeats 4000000 in
theorem zte (sa a:Option Addr) (sc c:Nat) (s:List Lin) (l:List It) (w:World) (R0:Lins w sa sc s) (R:Its w a c l) :
  Calls Tryz.prog 74 #[.slice sa s.length sc,.slice a l.length c] w (TellsB (zaq s l) w):=by
 have hle:=R.le
 have hle0:=R0.le
 have Z:=zfJ sa sc s w R0
 have HIF:=dq (zb3 (s:=s) (l:=l))
 generalize hn:l.length=n at hle HIF ⊢
 generalize hm:s.length=m at hle0 Z HIF ⊢
 have HN:=dq hn
 have HM:=dq hm
 have HR:=dq R
 generalize hv:zam s=v at Z HIF
 have HZ:=dq Z
 clear R R0 hn hm Z hv
 go_enter Tryz.func74,Tryz.ntmps74
 go_wp2_with (fail)
 refine HZ.out.mono ?_
 rintro e w1 ⟨rfl,b1⟩
 have HB:=dq b1
 clear b1 HZ
 cases v with
 | false=>
  have E:Hid (zaq s l=false):=dq (by rw [←Bool.not_eq_true,HIF.out];exact fun h=>Bool.false_ne_true h.1)
  go_wp2
  go_ret
  exact ⟨by rw [E.out];try rfl,HB.out⟩
 | true=>
  go_wp2
  go_loopw [4,12] (fun r i wr=>∃ k:Nat,k≤n∧r=.bool false∧i=.int .i64 k∧Hid (Below w.heap.size w wr)∧Hid (∀ j,j<k→0≤(itAt l j).j∧(itAt l j).j<(m:Int))∧Hid (UpI l k)) (fun _ i _=>n-(intOf i).toNat)
  case atStart=>exact ⟨0,Nat.zero_le _,rfl,rfl,HB,dq (fun j h=>by omega),dq (fun j h=>by omega)⟩
  case round=>
   clear HB
   obtain ⟨k,hk,rfl,rfl,HB,HJ,HE⟩:=hrel
   by_cases hlt:k<n
   ·have HRW:=dq (HR.out.below HB.out)
    obtain ⟨g,b,d,e1,c0,c1,B1⟩:=HRW.out.at (k:=k) (by rw [HN.out];exact hlt)
    have hbl:=B1.le
    generalize hu:(itAt l k).c.length=u at c1 hbl
    have HU:=dq hu
    clear hu
    generalize hj:(itAt l k).j=j at c0
    have HJV:=dq hj
    clear hj
    have bb:=below_alloc wr (.cells #[.int .i64 j,.slice b u d] 111)
    have HB2:=dq (HB.out.trans (bb.mono HB.out.size))
    have HL:=dq (Lies.new wr 111 [.int .i64 j,.slice b u d])
    have HRW2:=dq (HRW.out.below bb)
    have HX:=dq (B1.below bb)
    clear B1 bb
    subst e1
    go_upto_region 6 with (fail)
    clear c0 c1
    generalize wr.alloc (.cells #[.int .i64 j,.slice b u d] 111)=W at HB2 HL HRW2 HX ⊢
    generalize wr.heap.size=gb at HL ⊢
    clear HB HRW
    have HB:=HB2
    clear HB2
    have k0:=HL.out.cell 0
    have k1:=HL.out.cell 1
    simp only [List.getElem?_cons_zero,List.getElem?_cons_succ] at k0 k1
    have ltb:=HL.out.lt
    have ltg:=HRW2.out.lt rfl
    have bd:Below W.heap.size W W.drew:=⟨rfl,rfl,rfl,Nat.le_refl _,fun _ _=>rfl⟩
    have ZR:Hid (∀ V,Below W.heap.size W V→Calls Tryz.prog 40 #[.slice b u d] V (TellsB (zaa (itAt l k).c) V)):=dq (fun V h=>by
     have Z:=za4 b d (itAt l k).c V (HX.out.below h)
     rw [HU.out] at Z
     exact Z.mono (fun e w' h=>by obtain ⟨h1,h2⟩:=h;subst h2;exact ⟨h1,Below.refl _ _⟩))
    generalize hv:zaa (itAt l k).c=v at ZR
    have HV:=dq hv
    clear hv
    have hbad:¬(0≤j∧j<(m:Int)∧v=true∧(0<k→ltI (itAt l (k-1)) (itAt l k)=true))→Hid (zaq s l=false):=fun h=>dq (by
     rw [←Bool.not_eq_true,HIF.out]
     rintro ⟨_,h2,h3⟩
     have a1:=h2 k hlt
     have a2:=h3 k hlt
     rw [HJV.out] at a1
     refine h ⟨a1.1,a1.2,?_,fun h0=>?_⟩
     ·rw [←HV.out];exact a2.1
     ·exact (zdy (h3 (k-1) (by omega)).1 a2.1).2 (a2.2 h0))
    by_cases hj0:j<0
    ·have E:=hbad (by omega)
     have hj0b:decide (j<0)=true:=by simpa using hj0
     clear hbad
     refine wp_region_held_drew (S:=fun w'=>Below W.heap.size W w') (by kernel_rfl) bd (fun hHeld=>?_)
     clear hHeld
     refine tkY 0 zd8 (v:=?_) rfl bd ?_ ?_
     rotate_left
     ·intro w hSw
      simp only [zd8];go_simp
      try with_reducible rfl
     try simp only [zd8,Act.put,pA,pB,pC]
     refine tkY 1 zd9 (v:=?_) rfl bd ?_ ?_
     rotate_left
     ·intro w hSw
      have f1:=(hSw.cell (p:=⟨gb,0,none⟩) ltb).trans k0
      have f2:=(hSw.cell (p:=⟨gb,1,none⟩) ltb).trans k1
      simp only [zd9];go_simp
      try with_reducible rfl
     try simp only [zd9,Act.put,pA,pB,pC]
     refine tkY 2 zea (v:=?_) rfl bd ?_ ?_
     rotate_left
     ·intro w hSw
      simp only [zea];go_simp
      try with_reducible rfl
     try simp only [zea,Act.put,pA,pB,pC]
     refine tkY 3 zeb (v:=?_) rfl bd ?_ ?_
     rotate_left
     ·intro w hSw
      simp only [zeb];go_simp
      try with_reducible rfl
     try simp only [zeb,Act.put,pA,pB,pC]
     refine tkN 4 zeD rfl bd ?_
     try simp only [zeD,Act.put,pA,pB,pC]
     refine tkN 5 zeE rfl bd ?_
     try simp only [zeE,Act.put,pA,pB,pC]
     refine tkN 6 zeF rfl bd ?_
     try simp only [zeF,Act.put,pA,pB,pC]
     refine tkN 7 zeG rfl bd ?_
     try simp only [zeG,Act.put,pA,pB,pC]
     refine tkN 8 zeH rfl bd ?_
     try simp only [zeH,Act.put,pA,pB,pC]
     refine tkY 9 zec (v:=?_) rfl bd ?_ ?_
     rotate_left
     ·intro w hSw
      simp only [zec];go_simp
      try with_reducible rfl
     try simp only [zec,Act.put,pA,pB,pC]
     refine tkY 10 zbN (v:=?_) rfl bd ?_ ?_
     rotate_left
     ·intro w hSw
      simp only [zbN];go_simp
      try with_reducible rfl
     try simp only [zbN,Act.put,pA,pB,pC]
     refine tkN 11 zcr rfl bd ?_
     try simp only [zcr,Act.put,pA,pB,pC]
     refine tkN 12 zcs rfl bd ?_
     try simp only [zcs,Act.put,pA,pB,pC]
     refine tkN 13 zct rfl bd ?_
     try simp only [zct,Act.put,pA,pB,pC]
     refine tkN 14 zcu rfl bd ?_
     try simp only [zcu,Act.put,pA,pB,pC]
     refine tkY 15 zbO (v:=?_) rfl bd ?_ ?_
     rotate_left
     ·intro w hSw
      simp only [zbO];go_simp
      try with_reducible rfl
     try simp only [zbO,Act.put,pA,pB,pC]
     refine tkY 16 zbP (v:=?_) rfl bd ?_ ?_
     rotate_left
     ·intro w hSw
      simp only [zbP];go_simp
      try with_reducible rfl
     try simp only [zbP,Act.put,pA,pB,pC]
     refine tkN 17 zcX rfl bd ?_
     try simp only [zcX,Act.put,pA,pB,pC]
     refine tkN 18 zcY rfl bd ?_
     try simp only [zcY,Act.put,pA,pB,pC]
     refine tkN 19 zcZ rfl bd ?_
     try simp only [zcZ,Act.put,pA,pB,pC]
     refine tkN 20 zdl rfl bd ?_
     try simp only [zdl,Act.put,pA,pB,pC]
     refine tkN 21 zdm rfl bd ?_
     try simp only [zdm,Act.put,pA,pB,pC]
     refine tkN 22 zdn rfl bd ?_
     try simp only [zdn,Act.put,pA,pB,pC]
     refine tkN 23 zdo rfl bd ?_
     try simp only [zdo,Act.put,pA,pB,pC]
     refine tkN 24 zdp rfl bd ?_
     try simp only [zdp,Act.put,pA,pB,pC]
     refine tkN 25 zdq rfl bd ?_
     try simp only [zdq,Act.put,pA,pB,pC]
     refine tkN 26 zdr rfl bd ?_
     try simp only [zdr,Act.put,pA,pB,pC]
     refine tkN 27 zds rfl bd ?_
     try simp only [zds,Act.put,pA,pB,pC]
     refine tkN 28 zc0 rfl bd ?_
     try simp only [zc0,Act.put,pA,pB,pC]
     refine tkY 29 zbQ (v:=?_) rfl bd ?_ ?_
     rotate_left
     ·intro w hSw
      simp only [zbQ];go_simp
      try with_reducible rfl
     try simp only [zbQ,Act.put,pA,pB,pC]
     refine wpAnyH_done (by kernel_rfl) ?_ _
     have HB3:=dq (HB.out.trans (bd.mono HB.out.size))
     clear ltb ltg bd ZR k0 k1
     go_wp2
     go_ret
     exact ⟨by rw [E.out];try rfl,HB3.out⟩
    ·have hj0b:decide (j<0)=false:=by simpa using hj0
     by_cases hjm:(m:Int)≤j
     ·have E:=hbad (by omega)
      have hjmb:decide ((m:Int)≤j)=true:=by simpa using hjm
      clear hbad
      refine wp_region_held_drew (S:=fun w'=>Below W.heap.size W w') (by kernel_rfl) bd (fun hHeld=>?_)
      clear hHeld
      refine tkY 0 zd8 (v:=?_) rfl bd ?_ ?_
      rotate_left
      ·intro w hSw
       simp only [zd8];go_simp
       try with_reducible rfl
      try simp only [zd8,Act.put,pA,pB,pC]
      refine tkY 1 zd9 (v:=?_) rfl bd ?_ ?_
      rotate_left
      ·intro w hSw
       have f1:=(hSw.cell (p:=⟨gb,0,none⟩) ltb).trans k0
       have f2:=(hSw.cell (p:=⟨gb,1,none⟩) ltb).trans k1
       simp only [zd9];go_simp
       try with_reducible rfl
      try simp only [zd9,Act.put,pA,pB,pC]
      refine tkY 2 zea (v:=?_) rfl bd ?_ ?_
      rotate_left
      ·intro w hSw
       simp only [zea];go_simp
       try with_reducible rfl
      try simp only [zea,Act.put,pA,pB,pC]
      refine tkY 3 zeb (v:=?_) rfl bd ?_ ?_
      rotate_left
      ·intro w hSw
       simp only [zeb];go_simp
       try with_reducible rfl
      try simp only [zeb,Act.put,pA,pB,pC]
      refine tkY 4 zeD (v:=?_) rfl bd ?_ ?_
      rotate_left
      ·intro w hSw
       simp only [zeD];go_simp
       try with_reducible rfl
      try simp only [zeD,Act.put,pA,pB,pC]
      refine tkY 5 zeE (v:=?_) rfl bd ?_ ?_
      rotate_left
      ·intro w hSw
       have f1:=(hSw.cell (p:=⟨gb,0,none⟩) ltb).trans k0
       have f2:=(hSw.cell (p:=⟨gb,1,none⟩) ltb).trans k1
       simp only [zeE];go_simp
       try with_reducible rfl
      try simp only [zeE,Act.put,pA,pB,pC]
      refine tkY 6 zeF (v:=?_) rfl bd ?_ ?_
      rotate_left
      ·intro w hSw
       simp only [zeF];go_simp
       try with_reducible rfl
      try simp only [zeF,Act.put,pA,pB,pC]
      refine tkY 7 zeG (v:=?_) rfl bd ?_ ?_
      rotate_left
      ·intro w hSw
       simp only [zeG];go_simp
       try with_reducible rfl
      try simp only [zeG,Act.put,pA,pB,pC]
      refine tkY 8 zeH (v:=?_) rfl bd ?_ ?_
      rotate_left
      ·intro w hSw
       simp only [zeH];go_simp
       try with_reducible rfl
      try simp only [zeH,Act.put,pA,pB,pC]
      refine tkY 9 zec (v:=?_) rfl bd ?_ ?_
      rotate_left
      ·intro w hSw
       simp only [zec];go_simp
       try with_reducible rfl
      try simp only [zec,Act.put,pA,pB,pC]
      refine tkY 10 zbN (v:=?_) rfl bd ?_ ?_
      rotate_left
      ·intro w hSw
       simp only [zbN];go_simp
       try with_reducible rfl
      try simp only [zbN,Act.put,pA,pB,pC]
      refine tkN 11 zcr rfl bd ?_
      try simp only [zcr,Act.put,pA,pB,pC]
      refine tkN 12 zcs rfl bd ?_
      try simp only [zcs,Act.put,pA,pB,pC]
      refine tkN 13 zct rfl bd ?_
      try simp only [zct,Act.put,pA,pB,pC]
      refine tkN 14 zcu rfl bd ?_
      try simp only [zcu,Act.put,pA,pB,pC]
      refine tkY 15 zbO (v:=?_) rfl bd ?_ ?_
      rotate_left
      ·intro w hSw
       simp only [zbO];go_simp
       try with_reducible rfl
      try simp only [zbO,Act.put,pA,pB,pC]
      refine tkY 16 zbP (v:=?_) rfl bd ?_ ?_
      rotate_left
      ·intro w hSw
       simp only [zbP];go_simp
       try with_reducible rfl
      try simp only [zbP,Act.put,pA,pB,pC]
      refine tkN 17 zcX rfl bd ?_
      try simp only [zcX,Act.put,pA,pB,pC]
      refine tkN 18 zcY rfl bd ?_
      try simp only [zcY,Act.put,pA,pB,pC]
      refine tkN 19 zcZ rfl bd ?_
      try simp only [zcZ,Act.put,pA,pB,pC]
      refine tkN 20 zdl rfl bd ?_
      try simp only [zdl,Act.put,pA,pB,pC]
      refine tkN 21 zdm rfl bd ?_
      try simp only [zdm,Act.put,pA,pB,pC]
      refine tkN 22 zdn rfl bd ?_
      try simp only [zdn,Act.put,pA,pB,pC]
      refine tkN 23 zdo rfl bd ?_
      try simp only [zdo,Act.put,pA,pB,pC]
      refine tkN 24 zdp rfl bd ?_
      try simp only [zdp,Act.put,pA,pB,pC]
      refine tkN 25 zdq rfl bd ?_
      try simp only [zdq,Act.put,pA,pB,pC]
      refine tkN 26 zdr rfl bd ?_
      try simp only [zdr,Act.put,pA,pB,pC]
      refine tkN 27 zds rfl bd ?_
      try simp only [zds,Act.put,pA,pB,pC]
      refine tkN 28 zc0 rfl bd ?_
      try simp only [zc0,Act.put,pA,pB,pC]
      refine tkY 29 zbQ (v:=?_) rfl bd ?_ ?_
      rotate_left
      ·intro w hSw
       simp only [zbQ];go_simp
       try with_reducible rfl
      try simp only [zbQ,Act.put,pA,pB,pC]
      refine wpAnyH_done (by kernel_rfl) ?_ _
      have HB3:=dq (HB.out.trans (bd.mono HB.out.size))
      clear ltb ltg bd ZR k0 k1
      go_wp2
      go_ret
      exact ⟨by rw [E.out];try rfl,HB3.out⟩
     ·have hjmb:decide ((m:Int)≤j)=false:=by simpa using hjm
      have HJ2:Hid (∀ i,i<k+1→0≤(itAt l i).j∧(itAt l i).j<(m:Int)):=dq (fun i hi=>by
       by_cases e:i=k
       ·rw [e,HJV.out];omega
       ·exact HJ.out i (by omega))
      cases v with
      | false=>
       have E:=hbad (fun h=>Bool.false_ne_true h.2.2.1)
       clear hbad
       refine wp_region_held_drew (S:=fun w'=>Below W.heap.size W w') (by kernel_rfl) bd (fun hHeld=>?_)
       clear hHeld
       refine tkY 0 zd8 (v:=?_) rfl bd ?_ ?_
       rotate_left
       ·intro w hSw
        simp only [zd8];go_simp
        try with_reducible rfl
       try simp only [zd8,Act.put,pA,pB,pC]
       refine tkY 1 zd9 (v:=?_) rfl bd ?_ ?_
       rotate_left
       ·intro w hSw
        have f1:=(hSw.cell (p:=⟨gb,0,none⟩) ltb).trans k0
        have f2:=(hSw.cell (p:=⟨gb,1,none⟩) ltb).trans k1
        simp only [zd9];go_simp
        try with_reducible rfl
       try simp only [zd9,Act.put,pA,pB,pC]
       refine tkY 2 zea (v:=?_) rfl bd ?_ ?_
       rotate_left
       ·intro w hSw
        simp only [zea];go_simp
        try with_reducible rfl
       try simp only [zea,Act.put,pA,pB,pC]
       refine tkY 3 zeb (v:=?_) rfl bd ?_ ?_
       rotate_left
       ·intro w hSw
        simp only [zeb];go_simp
        try with_reducible rfl
       try simp only [zeb,Act.put,pA,pB,pC]
       refine tkY 4 zeD (v:=?_) rfl bd ?_ ?_
       rotate_left
       ·intro w hSw
        simp only [zeD];go_simp
        try with_reducible rfl
       try simp only [zeD,Act.put,pA,pB,pC]
       refine tkY 5 zeE (v:=?_) rfl bd ?_ ?_
       rotate_left
       ·intro w hSw
        have f1:=(hSw.cell (p:=⟨gb,0,none⟩) ltb).trans k0
        have f2:=(hSw.cell (p:=⟨gb,1,none⟩) ltb).trans k1
        simp only [zeE];go_simp
        try with_reducible rfl
       try simp only [zeE,Act.put,pA,pB,pC]
       refine tkY 6 zeF (v:=?_) rfl bd ?_ ?_
       rotate_left
       ·intro w hSw
        simp only [zeF];go_simp
        try with_reducible rfl
       try simp only [zeF,Act.put,pA,pB,pC]
       refine tkY 7 zeG (v:=?_) rfl bd ?_ ?_
       rotate_left
       ·intro w hSw
        simp only [zeG];go_simp
        try with_reducible rfl
       try simp only [zeG,Act.put,pA,pB,pC]
       refine tkY 8 zeH (v:=?_) rfl bd ?_ ?_
       rotate_left
       ·intro w hSw
        simp only [zeH];go_simp
        try with_reducible rfl
       try simp only [zeH,Act.put,pA,pB,pC]
       refine tkY 9 zec (v:=?_) rfl bd ?_ ?_
       rotate_left
       ·intro w hSw
        simp only [zec];go_simp
        try with_reducible rfl
       try simp only [zec,Act.put,pA,pB,pC]
       refine tkY 10 zbN (v:=?_) rfl bd ?_ ?_
       rotate_left
       ·intro w hSw
        simp only [zbN];go_simp
        try with_reducible rfl
       try simp only [zbN,Act.put,pA,pB,pC]
       refine tkY 11 zcr (v:=?_) rfl bd ?_ ?_
       rotate_left
       ·intro w hSw
        simp only [zcr];go_simp
        try with_reducible rfl
       try simp only [zcr,Act.put,pA,pB,pC]
       refine tkY 12 zcs (v:=?_) rfl bd ?_ ?_
       rotate_left
       ·intro w hSw
        have f1:=(hSw.cell (p:=⟨gb,0,none⟩) ltb).trans k0
        have f2:=(hSw.cell (p:=⟨gb,1,none⟩) ltb).trans k1
        simp only [zcs];go_simp
        try with_reducible rfl
       try simp only [zcs,Act.put,pA,pB,pC]
       refine wpAnyH_ready (rs:=[13]) (by kernel_rfl) (by simp) ?_
       refine AllReadyH.cons (o:=zct) rfl (fun K hK=>?_) AllReadyH.nil
       simp only [zct];go_simp
       refine (ZR.out _ bd).mono ?_
       rintro e V1 ⟨rfl,d1⟩
       have b1:Below W.heap.size W V1:=bd.trans (d1.mono bd.size)
       go_wp2_with (fail)
       refine hK.out _ _ b1 (fun hHeld=>?_)
       clear hK K hHeld
       try simp only [zct,Act.put,pA,pB,pC]
       refine tkY 14 zcu (v:=?_) rfl b1 ?_ ?_
       rotate_left
       ·intro w hSw
        simp only [zcu];go_simp
        try with_reducible rfl
       try simp only [zcu,Act.put,pA,pB,pC]
       refine tkY 15 zbO (v:=?_) rfl b1 ?_ ?_
       rotate_left
       ·intro w hSw
        simp only [zbO];go_simp
        try with_reducible rfl
       try simp only [zbO,Act.put,pA,pB,pC]
       refine tkY 16 zbP (v:=?_) rfl b1 ?_ ?_
       rotate_left
       ·intro w hSw
        simp only [zbP];go_simp
        try with_reducible rfl
       try simp only [zbP,Act.put,pA,pB,pC]
       refine tkN 17 zcX rfl b1 ?_
       try simp only [zcX,Act.put,pA,pB,pC]
       refine tkN 18 zcY rfl b1 ?_
       try simp only [zcY,Act.put,pA,pB,pC]
       refine tkN 19 zcZ rfl b1 ?_
       try simp only [zcZ,Act.put,pA,pB,pC]
       refine tkN 20 zdl rfl b1 ?_
       try simp only [zdl,Act.put,pA,pB,pC]
       refine tkN 21 zdm rfl b1 ?_
       try simp only [zdm,Act.put,pA,pB,pC]
       refine tkN 22 zdn rfl b1 ?_
       try simp only [zdn,Act.put,pA,pB,pC]
       refine tkN 23 zdo rfl b1 ?_
       try simp only [zdo,Act.put,pA,pB,pC]
       refine tkN 24 zdp rfl b1 ?_
       try simp only [zdp,Act.put,pA,pB,pC]
       refine tkN 25 zdq rfl b1 ?_
       try simp only [zdq,Act.put,pA,pB,pC]
       refine tkN 26 zdr rfl b1 ?_
       try simp only [zdr,Act.put,pA,pB,pC]
       refine tkN 27 zds rfl b1 ?_
       try simp only [zds,Act.put,pA,pB,pC]
       refine tkN 28 zc0 rfl b1 ?_
       try simp only [zc0,Act.put,pA,pB,pC]
       refine tkY 29 zbQ (v:=?_) rfl b1 ?_ ?_
       rotate_left
       ·intro w hSw
        simp only [zbQ];go_simp
        try with_reducible rfl
       try simp only [zbQ,Act.put,pA,pB,pC]
       refine wpAnyH_done (by kernel_rfl) ?_ _
       have HB3:=dq (HB.out.trans (b1.mono HB.out.size))
       clear ltb ltg bd ZR k0 k1
       go_wp2
       go_ret
       exact ⟨by rw [E.out];try rfl,HB3.out⟩
      | true=>
       by_cases h0:k=0
       ·subst h0
        have HE2:Hid (UpI l 1):=dq (fun i hi=>by
         obtain rfl:i=0:=by omega
         exact ⟨HV.out,fun h=>by omega⟩)
        clear hbad
        refine wp_region_held_drew (S:=fun w'=>Below W.heap.size W w') (by kernel_rfl) bd (fun hHeld=>?_)
        clear hHeld
        refine tkY 0 zd8 (v:=?_) rfl bd ?_ ?_
        rotate_left
        ·intro w hSw
         simp only [zd8];go_simp
         try with_reducible rfl
        try simp only [zd8,Act.put,pA,pB,pC]
        refine tkY 1 zd9 (v:=?_) rfl bd ?_ ?_
        rotate_left
        ·intro w hSw
         have f1:=(hSw.cell (p:=⟨gb,0,none⟩) ltb).trans k0
         have f2:=(hSw.cell (p:=⟨gb,1,none⟩) ltb).trans k1
         simp only [zd9];go_simp
         try with_reducible rfl
        try simp only [zd9,Act.put,pA,pB,pC]
        refine tkY 2 zea (v:=?_) rfl bd ?_ ?_
        rotate_left
        ·intro w hSw
         simp only [zea];go_simp
         try with_reducible rfl
        try simp only [zea,Act.put,pA,pB,pC]
        refine tkY 3 zeb (v:=?_) rfl bd ?_ ?_
        rotate_left
        ·intro w hSw
         simp only [zeb];go_simp
         try with_reducible rfl
        try simp only [zeb,Act.put,pA,pB,pC]
        refine tkY 4 zeD (v:=?_) rfl bd ?_ ?_
        rotate_left
        ·intro w hSw
         simp only [zeD];go_simp
         try with_reducible rfl
        try simp only [zeD,Act.put,pA,pB,pC]
        refine tkY 5 zeE (v:=?_) rfl bd ?_ ?_
        rotate_left
        ·intro w hSw
         have f1:=(hSw.cell (p:=⟨gb,0,none⟩) ltb).trans k0
         have f2:=(hSw.cell (p:=⟨gb,1,none⟩) ltb).trans k1
         simp only [zeE];go_simp
         try with_reducible rfl
        try simp only [zeE,Act.put,pA,pB,pC]
        refine tkY 6 zeF (v:=?_) rfl bd ?_ ?_
        rotate_left
        ·intro w hSw
         simp only [zeF];go_simp
         try with_reducible rfl
        try simp only [zeF,Act.put,pA,pB,pC]
        refine tkY 7 zeG (v:=?_) rfl bd ?_ ?_
        rotate_left
        ·intro w hSw
         simp only [zeG];go_simp
         try with_reducible rfl
        try simp only [zeG,Act.put,pA,pB,pC]
        refine tkY 8 zeH (v:=?_) rfl bd ?_ ?_
        rotate_left
        ·intro w hSw
         simp only [zeH];go_simp
         try with_reducible rfl
        try simp only [zeH,Act.put,pA,pB,pC]
        refine tkY 9 zec (v:=?_) rfl bd ?_ ?_
        rotate_left
        ·intro w hSw
         simp only [zec];go_simp
         try with_reducible rfl
        try simp only [zec,Act.put,pA,pB,pC]
        refine tkY 10 zbN (v:=?_) rfl bd ?_ ?_
        rotate_left
        ·intro w hSw
         simp only [zbN];go_simp
         try with_reducible rfl
        try simp only [zbN,Act.put,pA,pB,pC]
        refine tkY 11 zcr (v:=?_) rfl bd ?_ ?_
        rotate_left
        ·intro w hSw
         simp only [zcr];go_simp
         try with_reducible rfl
        try simp only [zcr,Act.put,pA,pB,pC]
        refine tkY 12 zcs (v:=?_) rfl bd ?_ ?_
        rotate_left
        ·intro w hSw
         have f1:=(hSw.cell (p:=⟨gb,0,none⟩) ltb).trans k0
         have f2:=(hSw.cell (p:=⟨gb,1,none⟩) ltb).trans k1
         simp only [zcs];go_simp
         try with_reducible rfl
        try simp only [zcs,Act.put,pA,pB,pC]
        refine wpAnyH_ready (rs:=[13]) (by kernel_rfl) (by simp) ?_
        refine AllReadyH.cons (o:=zct) rfl (fun K hK=>?_) AllReadyH.nil
        simp only [zct];go_simp
        refine (ZR.out _ bd).mono ?_
        rintro e V1 ⟨rfl,d1⟩
        have b1:Below W.heap.size W V1:=bd.trans (d1.mono bd.size)
        go_wp2_with (fail)
        refine hK.out _ _ b1 (fun hHeld=>?_)
        clear hK K hHeld
        try simp only [zct,Act.put,pA,pB,pC]
        refine tkY 14 zcu (v:=?_) rfl b1 ?_ ?_
        rotate_left
        ·intro w hSw
         simp only [zcu];go_simp
         try with_reducible rfl
        try simp only [zcu,Act.put,pA,pB,pC]
        refine tkY 15 zbO (v:=?_) rfl b1 ?_ ?_
        rotate_left
        ·intro w hSw
         simp only [zbO];go_simp
         try with_reducible rfl
        try simp only [zbO,Act.put,pA,pB,pC]
        refine tkY 16 zbP (v:=?_) rfl b1 ?_ ?_
        rotate_left
        ·intro w hSw
         simp only [zbP];go_simp
         try with_reducible rfl
        try simp only [zbP,Act.put,pA,pB,pC]
        refine tkY 17 zcX (v:=?_) rfl b1 ?_ ?_
        rotate_left
        ·intro w hSw
         simp only [zcX];go_simp
         try with_reducible rfl
        try simp only [zcX,Act.put,pA,pB,pC]
        refine tkY 18 zcY (v:=?_) rfl b1 ?_ ?_
        rotate_left
        ·intro w hSw
         simp only [zcY];go_simp
         try with_reducible rfl
        try simp only [zcY,Act.put,pA,pB,pC]
        refine tkY 19 zcZ (v:=?_) rfl b1 ?_ ?_
        rotate_left
        ·intro w hSw
         simp only [zcZ];go_simp
         try with_reducible rfl
        try simp only [zcZ,Act.put,pA,pB,pC]
        refine tkN 20 zdl rfl b1 ?_
        try simp only [zdl,Act.put,pA,pB,pC]
        refine tkN 21 zdm rfl b1 ?_
        try simp only [zdm,Act.put,pA,pB,pC]
        refine tkN 22 zdn rfl b1 ?_
        try simp only [zdn,Act.put,pA,pB,pC]
        refine tkN 23 zdo rfl b1 ?_
        try simp only [zdo,Act.put,pA,pB,pC]
        refine tkN 24 zdp rfl b1 ?_
        try simp only [zdp,Act.put,pA,pB,pC]
        refine tkN 25 zdq rfl b1 ?_
        try simp only [zdq,Act.put,pA,pB,pC]
        refine tkN 26 zdr rfl b1 ?_
        try simp only [zdr,Act.put,pA,pB,pC]
        refine tkN 27 zds rfl b1 ?_
        try simp only [zds,Act.put,pA,pB,pC]
        refine tkY 28 zc0 (v:=?_) rfl b1 ?_ ?_
        rotate_left
        ·intro w hSw
         simp only [zc0];go_simp
         try with_reducible rfl
        try simp only [zc0,Act.put,pA,pB,pC]
        refine tkY 29 zbQ (v:=?_) rfl b1 ?_ ?_
        rotate_left
        ·intro w hSw
         simp only [zbQ];go_simp
         try with_reducible rfl
        try simp only [zbQ,Act.put,pA,pB,pC]
        refine wpAnyH_done (by kernel_rfl) ?_ _
        have HB3:=dq (HB.out.trans (b1.mono HB.out.size))
        clear ltb ltg bd ZR k0 k1
        go_wp2
        go_roundw
        case rel=>exact ⟨1,by omega,rfl,by go_num,HB3,HJ2,HE2⟩
        case measure=>simp [intOf];omega
       ·obtain ⟨i,rfl⟩:∃ i,k=i+1:=⟨k-1,by omega⟩
        obtain ⟨g2,b2,d2,e2,c0',c1',B2⟩:=HRW2.out.at (k:=i) (by rw [HN.out];omega)
        injection e2 with e2;injection e2 with e2
        subst e2
        have hbl2:=B2.le
        generalize hu2:(itAt l i).c.length=u2 at c1' hbl2
        have ZL:Hid (∀ V,Below W.heap.size W V→Calls Tryz.prog 109 #[.agg #[.int .i64 (itAt l i).j,.slice b2 u2 d2],.agg #[.int .i64 j,.slice b u d]] V (Tells (cmpI (itAt l i) (itAt l (i+1))) V)):=dq (fun V h=>by
         have Z:=Z.order_any b2 b d2 d (itAt l i) (itAt l (i+1)) V (B2.below h) (HX.out.below h) (HE.out i (by omega)).1 HV.out
         rw [hu2,HU.out,HJV.out] at Z
         exact Z.mono (fun e w' h=>⟨h.1,h.2.toBelow⟩))
        generalize (itAt l i).j=j2 at c0' ZL
        have hlt1:ltI (itAt l i) (itAt l (i+1))=decide (cmpI (itAt l i) (itAt l (i+1))<0):=by
         have h:=zdy (HE.out i (by omega)).1 HV.out
         by_cases h2:cmpI (itAt l i) (itAt l (i+1))<0
         ·rw [h.2 h2];simp [h2]
         ·rw [Bool.eq_false_iff.2 (fun h3=>h2 (h.1 h3))];simp [h2]
        generalize cmpI (itAt l i) (itAt l (i+1))=cz at ZL hlt1
        obtain ⟨cv,hcv0⟩:∃ cv,cv=decide (cz<0):=⟨_,rfl⟩
        have hcv:ltI (itAt l i) (itAt l (i+1))=cv:=hlt1.trans hcv0.symm
        have HCV:=dq hcv
        have HCZ:=dq hcv0
        clear hlt1 hcv0
        clear B2 hu2 hcv h0
        have q1:(0:Int)<(i:Int)+1:=by omega
        have q2:IntKind.i64.wrap (i:Int)=(i:Int):=IntWalk.i64_in _ (by omega)
        have q3:(0:Int)≤(i:Int):=by omega
        have q4:(i:Int)<(n:Int):=by omega
        have q5:i<n:=by omega
        cases cv with
        | true=>
         have hcz:cz<0:=of_decide_eq_true HCZ.out.symm
         have hczb:decide (0≤cz)=false:=by simpa using hcz
         clear HCZ
         have HE2:Hid (UpI l (i+1+1)):=dq (fun z hz=>by
          by_cases e:z=i+1
          ·subst e
           refine ⟨HV.out,fun _=>?_⟩
           rw [show i+1-1=i from rfl]
           exact (zdy (HE.out i (by omega)).1 HV.out).1 HCV.out
          ·exact HE.out z (by omega))
         clear hbad
         refine wp_region_held_drew (S:=fun w'=>Below W.heap.size W w') (by kernel_rfl) bd (fun hHeld=>?_)
         clear hHeld
         refine tkY 0 zd8 (v:=?_) rfl bd ?_ ?_
         rotate_left
         ·intro w hSw
          simp only [zd8];go_simp
          try with_reducible rfl
         try simp only [zd8,Act.put,pA,pB,pC]
         refine tkY 1 zd9 (v:=?_) rfl bd ?_ ?_
         rotate_left
         ·intro w hSw
          have f1:=(hSw.cell (p:=⟨gb,0,none⟩) ltb).trans k0
          have f2:=(hSw.cell (p:=⟨gb,1,none⟩) ltb).trans k1
          have f3:=(hSw.cell (p:=⟨g,i*2,none⟩) ltg).trans c0'
          have f4:=(hSw.cell (p:=⟨g,i*2+1,none⟩) ltg).trans c1'
          simp only [zd9];go_simp
          try with_reducible rfl
         try simp only [zd9,Act.put,pA,pB,pC]
         refine tkY 2 zea (v:=?_) rfl bd ?_ ?_
         rotate_left
         ·intro w hSw
          simp only [zea];go_simp
          try with_reducible rfl
         try simp only [zea,Act.put,pA,pB,pC]
         refine tkY 3 zeb (v:=?_) rfl bd ?_ ?_
         rotate_left
         ·intro w hSw
          simp only [zeb];go_simp
          try with_reducible rfl
         try simp only [zeb,Act.put,pA,pB,pC]
         refine tkY 4 zeD (v:=?_) rfl bd ?_ ?_
         rotate_left
         ·intro w hSw
          simp only [zeD];go_simp
          try with_reducible rfl
         try simp only [zeD,Act.put,pA,pB,pC]
         refine tkY 5 zeE (v:=?_) rfl bd ?_ ?_
         rotate_left
         ·intro w hSw
          have f1:=(hSw.cell (p:=⟨gb,0,none⟩) ltb).trans k0
          have f2:=(hSw.cell (p:=⟨gb,1,none⟩) ltb).trans k1
          have f3:=(hSw.cell (p:=⟨g,i*2,none⟩) ltg).trans c0'
          have f4:=(hSw.cell (p:=⟨g,i*2+1,none⟩) ltg).trans c1'
          simp only [zeE];go_simp
          try with_reducible rfl
         try simp only [zeE,Act.put,pA,pB,pC]
         refine tkY 6 zeF (v:=?_) rfl bd ?_ ?_
         rotate_left
         ·intro w hSw
          simp only [zeF];go_simp
          try with_reducible rfl
         try simp only [zeF,Act.put,pA,pB,pC]
         refine tkY 7 zeG (v:=?_) rfl bd ?_ ?_
         rotate_left
         ·intro w hSw
          simp only [zeG];go_simp
          try with_reducible rfl
         try simp only [zeG,Act.put,pA,pB,pC]
         refine tkY 8 zeH (v:=?_) rfl bd ?_ ?_
         rotate_left
         ·intro w hSw
          simp only [zeH];go_simp
          try with_reducible rfl
         try simp only [zeH,Act.put,pA,pB,pC]
         refine tkY 9 zec (v:=?_) rfl bd ?_ ?_
         rotate_left
         ·intro w hSw
          simp only [zec];go_simp
          try with_reducible rfl
         try simp only [zec,Act.put,pA,pB,pC]
         refine tkY 10 zbN (v:=?_) rfl bd ?_ ?_
         rotate_left
         ·intro w hSw
          simp only [zbN];go_simp
          try with_reducible rfl
         try simp only [zbN,Act.put,pA,pB,pC]
         refine tkY 11 zcr (v:=?_) rfl bd ?_ ?_
         rotate_left
         ·intro w hSw
          simp only [zcr];go_simp
          try with_reducible rfl
         try simp only [zcr,Act.put,pA,pB,pC]
         refine tkY 12 zcs (v:=?_) rfl bd ?_ ?_
         rotate_left
         ·intro w hSw
          have f1:=(hSw.cell (p:=⟨gb,0,none⟩) ltb).trans k0
          have f2:=(hSw.cell (p:=⟨gb,1,none⟩) ltb).trans k1
          have f3:=(hSw.cell (p:=⟨g,i*2,none⟩) ltg).trans c0'
          have f4:=(hSw.cell (p:=⟨g,i*2+1,none⟩) ltg).trans c1'
          simp only [zcs];go_simp
          try with_reducible rfl
         try simp only [zcs,Act.put,pA,pB,pC]
         refine wpAnyH_ready (rs:=[13]) (by kernel_rfl) (by simp) ?_
         refine AllReadyH.cons (o:=zct) rfl (fun K hK=>?_) AllReadyH.nil
         simp only [zct];go_simp
         refine (ZR.out _ bd).mono ?_
         rintro e V1 ⟨rfl,d1⟩
         have b1:Below W.heap.size W V1:=bd.trans (d1.mono bd.size)
         go_wp2_with (fail)
         refine hK.out _ _ b1 (fun hHeld=>?_)
         clear hK K hHeld
         try simp only [zct,Act.put,pA,pB,pC]
         refine tkY 14 zcu (v:=?_) rfl b1 ?_ ?_
         rotate_left
         ·intro w hSw
          simp only [zcu];go_simp
          try with_reducible rfl
         try simp only [zcu,Act.put,pA,pB,pC]
         refine tkY 15 zbO (v:=?_) rfl b1 ?_ ?_
         rotate_left
         ·intro w hSw
          simp only [zbO];go_simp
          try with_reducible rfl
         try simp only [zbO,Act.put,pA,pB,pC]
         refine tkY 16 zbP (v:=?_) rfl b1 ?_ ?_
         rotate_left
         ·intro w hSw
          simp only [zbP];go_simp
          try with_reducible rfl
         try simp only [zbP,Act.put,pA,pB,pC]
         refine tkY 17 zcX (v:=?_) rfl b1 ?_ ?_
         rotate_left
         ·intro w hSw
          simp only [zcX];go_simp
          try with_reducible rfl
         try simp only [zcX,Act.put,pA,pB,pC]
         refine tkY 18 zcY (v:=?_) rfl b1 ?_ ?_
         rotate_left
         ·intro w hSw
          simp only [zcY];go_simp
          try with_reducible rfl
         try simp only [zcY,Act.put,pA,pB,pC]
         refine tkY 19 zcZ (v:=?_) rfl b1 ?_ ?_
         rotate_left
         ·intro w hSw
          simp only [zcZ];go_simp
          try with_reducible rfl
         try simp only [zcZ,Act.put,pA,pB,pC]
         refine tkY 20 zdl (v:=?_) rfl b1 ?_ ?_
         rotate_left
         ·intro w hSw
          simp only [zdl];go_simp
          try with_reducible rfl
         try simp only [zdl,Act.put,pA,pB,pC]
         refine tkY 21 zdm (v:=?_) rfl b1 ?_ ?_
         rotate_left
         ·intro w hSw
          simp only [zdm];go_simp
          try with_reducible rfl
         try simp only [zdm,Act.put,pA,pB,pC]
         refine tkY 22 zdn (v:=?_) rfl b1 ?_ ?_
         rotate_left
         ·intro w hSw
          simp only [zdn];go_simp
          try with_reducible rfl
         try simp only [zdn,Act.put,pA,pB,pC]
         refine tkY 23 zdo (v:=?_) rfl b1 ?_ ?_
         rotate_left
         ·intro w hSw
          simp only [zdo];go_simp
          try with_reducible rfl
         try simp only [zdo,Act.put,pA,pB,pC]
         refine tkY 24 zdp (v:=?_) rfl b1 ?_ ?_
         rotate_left
         ·intro w hSw
          have f1:=(hSw.cell (p:=⟨gb,0,none⟩) ltb).trans k0
          have f2:=(hSw.cell (p:=⟨gb,1,none⟩) ltb).trans k1
          have f3:=(hSw.cell (p:=⟨g,i*2,none⟩) ltg).trans c0'
          have f4:=(hSw.cell (p:=⟨g,i*2+1,none⟩) ltg).trans c1'
          simp only [zdp];go_simp
          try with_reducible rfl
         try simp only [zdp,Act.put,pA,pB,pC]
         refine tkY 25 zdq (v:=?_) rfl b1 ?_ ?_
         rotate_left
         ·intro w hSw
          have f1:=(hSw.cell (p:=⟨gb,0,none⟩) ltb).trans k0
          have f2:=(hSw.cell (p:=⟨gb,1,none⟩) ltb).trans k1
          have f3:=(hSw.cell (p:=⟨g,i*2,none⟩) ltg).trans c0'
          have f4:=(hSw.cell (p:=⟨g,i*2+1,none⟩) ltg).trans c1'
          simp only [zdq];go_simp
          try with_reducible rfl
         try simp only [zdq,Act.put,pA,pB,pC]
         refine wpAnyH_ready (rs:=[26]) (by kernel_rfl) (by simp) ?_
         refine AllReadyH.cons (o:=zdr) rfl (fun K hK=>?_) AllReadyH.nil
         simp only [zdr];go_simp
         refine (ZL.out _ b1).mono ?_
         rintro e V2 ⟨rfl,d2⟩
         have b2:Below W.heap.size W V2:=b1.trans (d2.mono b1.size)
         go_wp2_with (fail)
         refine hK.out _ _ b2 (fun hHeld=>?_)
         clear hK K hHeld
         try simp only [zdr,Act.put,pA,pB,pC]
         refine tkY 27 zds (v:=?_) rfl b2 ?_ ?_
         rotate_left
         ·intro w hSw
          simp only [zds];go_simp
          try with_reducible rfl
         try simp only [zds,Act.put,pA,pB,pC]
         refine tkY 28 zc0 (v:=?_) rfl b2 ?_ ?_
         rotate_left
         ·intro w hSw
          simp only [zc0];go_simp
          try with_reducible rfl
         try simp only [zc0,Act.put,pA,pB,pC]
         refine tkY 29 zbQ (v:=?_) rfl b2 ?_ ?_
         rotate_left
         ·intro w hSw
          simp only [zbQ];go_simp
          try with_reducible rfl
         try simp only [zbQ,Act.put,pA,pB,pC]
         refine wpAnyH_done (by kernel_rfl) ?_ _
         have HB3:=dq (HB.out.trans (b2.mono HB.out.size))
         clear ltb ltg bd ZR ZL k0 k1 c0' c1'
         go_wp2
         go_roundw
         case rel=>exact ⟨i+1+1,by omega,rfl,by go_num,HB3,HJ2,HE2⟩
         case measure=>simp [intOf];omega
        | false=>
         have hcz:¬cz<0:=of_decide_eq_false HCZ.out.symm
         have hczb:decide (0≤cz)=true:=by simp;omega
         clear HCZ
         have E:=hbad (fun h=>by
          have:=h.2.2.2 (by omega)
          rw [show i+1-1=i from rfl,HCV.out] at this
          exact Bool.false_ne_true this)
         clear hbad
         refine wp_region_held_drew (S:=fun w'=>Below W.heap.size W w') (by kernel_rfl) bd (fun hHeld=>?_)
         clear hHeld
         refine tkY 0 zd8 (v:=?_) rfl bd ?_ ?_
         rotate_left
         ·intro w hSw
          simp only [zd8];go_simp
          try with_reducible rfl
         try simp only [zd8,Act.put,pA,pB,pC]
         refine tkY 1 zd9 (v:=?_) rfl bd ?_ ?_
         rotate_left
         ·intro w hSw
          have f1:=(hSw.cell (p:=⟨gb,0,none⟩) ltb).trans k0
          have f2:=(hSw.cell (p:=⟨gb,1,none⟩) ltb).trans k1
          have f3:=(hSw.cell (p:=⟨g,i*2,none⟩) ltg).trans c0'
          have f4:=(hSw.cell (p:=⟨g,i*2+1,none⟩) ltg).trans c1'
          simp only [zd9];go_simp
          try with_reducible rfl
         try simp only [zd9,Act.put,pA,pB,pC]
         refine tkY 2 zea (v:=?_) rfl bd ?_ ?_
         rotate_left
         ·intro w hSw
          simp only [zea];go_simp
          try with_reducible rfl
         try simp only [zea,Act.put,pA,pB,pC]
         refine tkY 3 zeb (v:=?_) rfl bd ?_ ?_
         rotate_left
         ·intro w hSw
          simp only [zeb];go_simp
          try with_reducible rfl
         try simp only [zeb,Act.put,pA,pB,pC]
         refine tkY 4 zeD (v:=?_) rfl bd ?_ ?_
         rotate_left
         ·intro w hSw
          simp only [zeD];go_simp
          try with_reducible rfl
         try simp only [zeD,Act.put,pA,pB,pC]
         refine tkY 5 zeE (v:=?_) rfl bd ?_ ?_
         rotate_left
         ·intro w hSw
          have f1:=(hSw.cell (p:=⟨gb,0,none⟩) ltb).trans k0
          have f2:=(hSw.cell (p:=⟨gb,1,none⟩) ltb).trans k1
          have f3:=(hSw.cell (p:=⟨g,i*2,none⟩) ltg).trans c0'
          have f4:=(hSw.cell (p:=⟨g,i*2+1,none⟩) ltg).trans c1'
          simp only [zeE];go_simp
          try with_reducible rfl
         try simp only [zeE,Act.put,pA,pB,pC]
         refine tkY 6 zeF (v:=?_) rfl bd ?_ ?_
         rotate_left
         ·intro w hSw
          simp only [zeF];go_simp
          try with_reducible rfl
         try simp only [zeF,Act.put,pA,pB,pC]
         refine tkY 7 zeG (v:=?_) rfl bd ?_ ?_
         rotate_left
         ·intro w hSw
          simp only [zeG];go_simp
          try with_reducible rfl
         try simp only [zeG,Act.put,pA,pB,pC]
         refine tkY 8 zeH (v:=?_) rfl bd ?_ ?_
         rotate_left
         ·intro w hSw
          simp only [zeH];go_simp
          try with_reducible rfl
         try simp only [zeH,Act.put,pA,pB,pC]
         refine tkY 9 zec (v:=?_) rfl bd ?_ ?_
         rotate_left
         ·intro w hSw
          simp only [zec];go_simp
          try with_reducible rfl
         try simp only [zec,Act.put,pA,pB,pC]
         refine tkY 10 zbN (v:=?_) rfl bd ?_ ?_
         rotate_left
         ·intro w hSw
          simp only [zbN];go_simp
          try with_reducible rfl
         try simp only [zbN,Act.put,pA,pB,pC]
         refine tkY 11 zcr (v:=?_) rfl bd ?_ ?_
         rotate_left
         ·intro w hSw
          simp only [zcr];go_simp
          try with_reducible rfl
         try simp only [zcr,Act.put,pA,pB,pC]
         refine tkY 12 zcs (v:=?_) rfl bd ?_ ?_
         rotate_left
         ·intro w hSw
          have f1:=(hSw.cell (p:=⟨gb,0,none⟩) ltb).trans k0
          have f2:=(hSw.cell (p:=⟨gb,1,none⟩) ltb).trans k1
          have f3:=(hSw.cell (p:=⟨g,i*2,none⟩) ltg).trans c0'
          have f4:=(hSw.cell (p:=⟨g,i*2+1,none⟩) ltg).trans c1'
          simp only [zcs];go_simp
          try with_reducible rfl
         try simp only [zcs,Act.put,pA,pB,pC]
         refine wpAnyH_ready (rs:=[13]) (by kernel_rfl) (by simp) ?_
         refine AllReadyH.cons (o:=zct) rfl (fun K hK=>?_) AllReadyH.nil
         simp only [zct];go_simp
         refine (ZR.out _ bd).mono ?_
         rintro e V1 ⟨rfl,d1⟩
         have b1:Below W.heap.size W V1:=bd.trans (d1.mono bd.size)
         go_wp2_with (fail)
         refine hK.out _ _ b1 (fun hHeld=>?_)
         clear hK K hHeld
         try simp only [zct,Act.put,pA,pB,pC]
         refine tkY 14 zcu (v:=?_) rfl b1 ?_ ?_
         rotate_left
         ·intro w hSw
          simp only [zcu];go_simp
          try with_reducible rfl
         try simp only [zcu,Act.put,pA,pB,pC]
         refine tkY 15 zbO (v:=?_) rfl b1 ?_ ?_
         rotate_left
         ·intro w hSw
          simp only [zbO];go_simp
          try with_reducible rfl
         try simp only [zbO,Act.put,pA,pB,pC]
         refine tkY 16 zbP (v:=?_) rfl b1 ?_ ?_
         rotate_left
         ·intro w hSw
          simp only [zbP];go_simp
          try with_reducible rfl
         try simp only [zbP,Act.put,pA,pB,pC]
         refine tkY 17 zcX (v:=?_) rfl b1 ?_ ?_
         rotate_left
         ·intro w hSw
          simp only [zcX];go_simp
          try with_reducible rfl
         try simp only [zcX,Act.put,pA,pB,pC]
         refine tkY 18 zcY (v:=?_) rfl b1 ?_ ?_
         rotate_left
         ·intro w hSw
          simp only [zcY];go_simp
          try with_reducible rfl
         try simp only [zcY,Act.put,pA,pB,pC]
         refine tkY 19 zcZ (v:=?_) rfl b1 ?_ ?_
         rotate_left
         ·intro w hSw
          simp only [zcZ];go_simp
          try with_reducible rfl
         try simp only [zcZ,Act.put,pA,pB,pC]
         refine tkY 20 zdl (v:=?_) rfl b1 ?_ ?_
         rotate_left
         ·intro w hSw
          simp only [zdl];go_simp
          try with_reducible rfl
         try simp only [zdl,Act.put,pA,pB,pC]
         refine tkY 21 zdm (v:=?_) rfl b1 ?_ ?_
         rotate_left
         ·intro w hSw
          simp only [zdm];go_simp
          try with_reducible rfl
         try simp only [zdm,Act.put,pA,pB,pC]
         refine tkY 22 zdn (v:=?_) rfl b1 ?_ ?_
         rotate_left
         ·intro w hSw
          simp only [zdn];go_simp
          try with_reducible rfl
         try simp only [zdn,Act.put,pA,pB,pC]
         refine tkY 23 zdo (v:=?_) rfl b1 ?_ ?_
         rotate_left
         ·intro w hSw
          simp only [zdo];go_simp
          try with_reducible rfl
         try simp only [zdo,Act.put,pA,pB,pC]
         refine tkY 24 zdp (v:=?_) rfl b1 ?_ ?_
         rotate_left
         ·intro w hSw
          have f1:=(hSw.cell (p:=⟨gb,0,none⟩) ltb).trans k0
          have f2:=(hSw.cell (p:=⟨gb,1,none⟩) ltb).trans k1
          have f3:=(hSw.cell (p:=⟨g,i*2,none⟩) ltg).trans c0'
          have f4:=(hSw.cell (p:=⟨g,i*2+1,none⟩) ltg).trans c1'
          simp only [zdp];go_simp
          try with_reducible rfl
         try simp only [zdp,Act.put,pA,pB,pC]
         refine tkY 25 zdq (v:=?_) rfl b1 ?_ ?_
         rotate_left
         ·intro w hSw
          have f1:=(hSw.cell (p:=⟨gb,0,none⟩) ltb).trans k0
          have f2:=(hSw.cell (p:=⟨gb,1,none⟩) ltb).trans k1
          have f3:=(hSw.cell (p:=⟨g,i*2,none⟩) ltg).trans c0'
          have f4:=(hSw.cell (p:=⟨g,i*2+1,none⟩) ltg).trans c1'
          simp only [zdq];go_simp
          try with_reducible rfl
         try simp only [zdq,Act.put,pA,pB,pC]
         refine wpAnyH_ready (rs:=[26]) (by kernel_rfl) (by simp) ?_
         refine AllReadyH.cons (o:=zdr) rfl (fun K hK=>?_) AllReadyH.nil
         simp only [zdr];go_simp
         refine (ZL.out _ b1).mono ?_
         rintro e V2 ⟨rfl,d2⟩
         have b2:Below W.heap.size W V2:=b1.trans (d2.mono b1.size)
         go_wp2_with (fail)
         refine hK.out _ _ b2 (fun hHeld=>?_)
         clear hK K hHeld
         try simp only [zdr,Act.put,pA,pB,pC]
         refine tkY 27 zds (v:=?_) rfl b2 ?_ ?_
         rotate_left
         ·intro w hSw
          simp only [zds];go_simp
          try with_reducible rfl
         try simp only [zds,Act.put,pA,pB,pC]
         refine tkY 28 zc0 (v:=?_) rfl b2 ?_ ?_
         rotate_left
         ·intro w hSw
          simp only [zc0];go_simp
          try with_reducible rfl
         try simp only [zc0,Act.put,pA,pB,pC]
         refine tkY 29 zbQ (v:=?_) rfl b2 ?_ ?_
         rotate_left
         ·intro w hSw
          simp only [zbQ];go_simp
          try with_reducible rfl
         try simp only [zbQ,Act.put,pA,pB,pC]
         refine wpAnyH_done (by kernel_rfl) ?_ _
         have HB3:=dq (HB.out.trans (b2.mono HB.out.size))
         clear ltb ltg bd ZR ZL k0 k1 c0' c1'
         go_wp2
         go_ret
         exact ⟨by rw [E.out];try rfl,HB3.out⟩
   ·have E:Hid (zaq s l=true):=dq (HIF.out.2 ⟨by first | trivial | rfl,fun i hi=>HJ.out i (by omega),fun i hi=>HE.out i (by omega)⟩)
    go_wp2
    go_ret
    exact ⟨by rw [E.out];try rfl,HB.out⟩
end Go.Proofs.YtmnkjekjknhhjaaGreatDoor
