import Derived.Test.YtmnkjekjknhhjaaGreatDoorMc
import Derived.Deep.RegionHeld3
import Derived.Deep.CutBlock
import Derived.Deep.DeepCutAuto
import Derived.Deep.CutRange
import Derived.Lib.SliceRun
namespace Go.Proofs.YtmnkjekjknhhjaaGreatDoor
open Go.ChangeShapes Go.WideShapes Go.ChangeAt Go.RowKit
def zhr:Oper:=⟨some 12,.load 53 (.tmp 4),53,"semi.go:15",#[],none⟩
def zhs:Oper:=⟨some 13,.call {callee:=.value (.func 70),args:=#[.tmp 12],argTypes:=#[53]},4,"semi.go:15",#[⟨0,.data⟩],none⟩
def zht:Oper:=⟨some 14,.unOp .not 4 (.tmp 13),4,"semi.go:15",#[⟨1,.data⟩],none⟩
def zhu:Oper:=⟨some 15,.move (.tmp 14),4,"semi.go:15",#[⟨2,.data⟩,⟨1,.chain⟩],none⟩
def zh8:Oper:=⟨some 16,.move (.tmp 3),3,"semi.go:15",#[⟨3,.guard⟩],some (3,false)⟩
def zh9:Oper:=⟨some 17,.binOp .gtr 3 (.tmp 16) (.const (.int .i64 0)) 3,4,"semi.go:15",#[⟨4,.data⟩,⟨3,.guard⟩],some (3,false)⟩
def zia:Oper:=⟨some 18,.move (.tmp 17),4,"semi.go:15",#[⟨5,.data⟩,⟨3,.chain⟩,⟨3,.guard⟩],some (3,false)⟩
def ziV:Oper:=⟨some 19,.move (.tmp 0),24,"semi.go:15",#[⟨6,.guard⟩],some (6,true)⟩
def ziW:Oper:=⟨some 20,.move (.tmp 3),3,"semi.go:15",#[⟨6,.guard⟩],some (6,true)⟩
def ziX:Oper:=⟨some 21,.binOp .sub 3 (.tmp 20) (.const (.int .i64 1)) 3,3,"semi.go:15",#[⟨8,.data⟩,⟨6,.guard⟩],some (6,true)⟩
def zfu:Oper:=⟨some 22,.indexAddr 24 (.tmp 19) (.tmp 21),0,"semi.go:15",#[⟨7,.data⟩,⟨9,.data⟩,⟨6,.guard⟩],some (6,true)⟩
def zfv:Oper:=⟨some 23,.load 53 (.tmp 22),53,"semi.go:15",#[⟨10,.data⟩,⟨6,.guard⟩],some (6,true)⟩
def zfw:Oper:=⟨some 24,.load 53 (.tmp 4),53,"semi.go:15",#[⟨6,.guard⟩],some (6,true)⟩
def zfx:Oper:=⟨some 25,.call {callee:=.value (.func 71),args:=#[.tmp 23,.tmp 24],argTypes:=#[53,53]},3,"semi.go:15",#[⟨11,.data⟩,⟨12,.data⟩,⟨6,.chain⟩,⟨6,.guard⟩],some (6,true)⟩
def zfy:Oper:=⟨some 26,.binOp .geq 3 (.tmp 25) (.const (.int .i64 0)) 3,4,"semi.go:15",#[⟨13,.data⟩,⟨6,.guard⟩],some (6,true)⟩
def zeo:Oper:=⟨some 27,.pick (.tmp 18) (.tmp 26) (.const (.bool false)),4,"semi.go:15",#[⟨6,.data⟩,⟨14,.data⟩,⟨3,.guard⟩],some (3,false)⟩
def zd2:Oper:=⟨some 28,.pick (.tmp 15) (.const (.bool true)) (.tmp 27),4,"semi.go:15",#[⟨3,.data⟩,⟨15,.data⟩],none⟩
set_option maxRecDepth 100000 in
set_option maxHeartbeats 4000000 in
theorem zfJ (a:Option Addr) (c:Nat) (s:List Lin) (w:World) (R:Lins w a c s) :
  Calls Tryz.prog 39 #[.slice a s.length c] w (TellsB (zam s) w):=by
 have hle:=R.le
 obtain ⟨n,hn⟩:∃ n,n=s.length:=⟨_,rfl⟩
 rw [←hn] at hle ⊢
 have HN:=dq hn.symm
 have HR:=dq R
 clear R hn
 go_enter Tryz.func39,Tryz.ntmps39
 go_wp2
 go_loopw [2,7] (fun r i wr=>∃ k:Nat,k≤n∧r=.bool false∧i=.int .i64 k∧Hid (Below w.heap.size w wr)∧Hid (zq6 s k)) (fun _ i _=>n-(intOf i).toNat)
 case atStart=>exact ⟨0,by omega,rfl,rfl,dq (Below.refl _ _),dq (fun j h=>by omega)⟩
 case round=>
  obtain ⟨k,hk,rfl,rfl,HB,HE⟩:=hrel
  by_cases hlt:k<n
  ·have HRW:=dq (HR.out.below HB.out)
   obtain ⟨g,b,d,pb,pd,e1,c0,c1,r1,t1⟩:=HRW.out.at (k:=k) (by rw [HN.out];exact hlt)
   have HE1:=dq e1
   generalize hu0:(zab s k).base.length=u0 at c0
   generalize hu1:(zab s k).ps.length=u1 at c1
   have bb:=below_alloc wr (.cells #[.slice b u0 d,.slice pb u1 pd] 53)
   have HB2:=dq (HB.out.trans (bb.mono HB.out.size))
   have HL:=dq (Lies.new wr 53 [.slice b u0 d,.slice pb u1 pd])
   have HRW2:=dq (HRW.out.below bb)
   have HX:=dq (r1.below bb)
   have HP:=dq (t1.below bb)
   have HU0:=dq hu0
   have HU1:=dq hu1
   clear r1 t1 bb hu0 hu1
   subst e1
   go_upto_region 4 with (fail)
   clear c0 c1
   generalize wr.alloc (.cells ([.slice b u0 d,.slice pb u1 pd]:List Value).toArray 53)=W at HB2 HL HRW2 HX HP ⊢
   generalize wr.heap.size=gb at HL ⊢
   clear HB HRW
   have HB:=HB2
   clear HB2
   have k0:=HL.out.cell 0
   have k1:=HL.out.cell 1
   simp only [List.getElem?_cons_zero,List.getElem?_cons_succ] at k0 k1
   have ltb:=HL.out.lt
   have ltg:=HRW2.out.lt rfl
   have bd:Below W.heap.size W W.drew:=⟨rfl,rfl,rfl,Nat.le_refl _,fun _ _=>rfl⟩
   have Z:=right13 b pb d pd (zab s k) W.drew (HX.out.below bd) (HP.out.below bd)
   rw [HU0.out,HU1.out] at Z
   generalize hv:rightLin (zab s k)=v at Z
   have HV:=dq hv
   have HZ:=dq Z
   clear Z hv
   cases v
   ·have E:Hid (zam s=false):=dq (zeU (k:=k) (by rw [HN.out];exact hlt) (fun h=>by rw [HV.out] at h;exact Bool.false_ne_true h.1))
    refine wp_region_held_drew (S:=fun w'=>Below W.heap.size W w') (by kernel_rfl) bd (fun hHeld=>?_)
    clear hHeld
    refine tkY 0 zhr (v:=?_) rfl bd ?_ ?_
    rotate_left
    ·intro w hSw
     have f1:=(hSw.cell (p:=⟨gb,0,none⟩) ltb).trans k0
     have f2:=(hSw.cell (p:=⟨gb,1,none⟩) ltb).trans k1
     simp only [zhr];go_simp
     try with_reducible rfl
    try simp only [zhr,Act.put,pA,pB,pC]
    refine wpAnyH_ready (rs:=[1]) (by kernel_rfl) (by simp) ?_
    refine AllReadyH.cons (o:=zhs) rfl (fun K hK=>?_) AllReadyH.nil
    simp only [zhs];go_simp
    refine HZ.out.mono ?_
    rintro e w3 ⟨rfl,b3⟩
    have b4:Below W.heap.size W w3:=undrew b3
    go_wp2_with (fail)
    refine hK.out _ _ b4 (fun hHeld=>?_)
    clear hK K hHeld
    try simp only [zhs,Act.put,pA,pB,pC]
    refine tkY 2 zht (v:=?_) rfl b4 ?_ ?_
    rotate_left
    ·intro w hSw
     simp only [zht];go_simp
     try with_reducible rfl
    try simp only [zht,Act.put,pA,pB,pC]
    refine tkY 3 zhu (v:=?_) rfl b4 ?_ ?_
    rotate_left
    ·intro w hSw
     simp only [zhu];go_simp
     try with_reducible rfl
    try simp only [zhu,Act.put,pA,pB,pC]
    refine tkN 4 zh8 rfl b4 ?_
    try simp only [zh8,Act.put,pA,pB,pC]
    refine tkN 5 zh9 rfl b4 ?_
    try simp only [zh9,Act.put,pA,pB,pC]
    refine tkN 6 zia rfl b4 ?_
    try simp only [zia,Act.put,pA,pB,pC]
    refine tkN 7 ziV rfl b4 ?_
    try simp only [ziV,Act.put,pA,pB,pC]
    refine tkN 8 ziW rfl b4 ?_
    try simp only [ziW,Act.put,pA,pB,pC]
    refine tkN 9 ziX rfl b4 ?_
    try simp only [ziX,Act.put,pA,pB,pC]
    refine tkN 10 zfu rfl b4 ?_
    try simp only [zfu,Act.put,pA,pB,pC]
    refine tkN 11 zfv rfl b4 ?_
    try simp only [zfv,Act.put,pA,pB,pC]
    refine tkN 12 zfw rfl b4 ?_
    try simp only [zfw,Act.put,pA,pB,pC]
    refine tkN 13 zfx rfl b4 ?_
    try simp only [zfx,Act.put,pA,pB,pC]
    refine tkN 14 zfy rfl b4 ?_
    try simp only [zfy,Act.put,pA,pB,pC]
    refine tkN 15 zeo rfl b4 ?_
    try simp only [zeo,Act.put,pA,pB,pC]
    refine tkY 16 zd2 (v:=?_) rfl b4 ?_ ?_
    rotate_left
    ·intro w hSw
     simp only [zd2];go_simp
     try with_reducible rfl
    try simp only [zd2,Act.put,pA,pB,pC]
    refine wpAnyH_done (by kernel_rfl) ?_ _
    have HB3:=dq (HB.out.trans (b4.mono HB.out.size))
    go_wp2
    go_ret
    exact ⟨by rw [E.out];try rfl,HB3.out⟩
   ·by_cases h0:k=0
    ·subst h0
     have HE2:Hid (zq6 s 1):=dq (fun j hj=>by
      obtain rfl:j=0:=by omega
      exact ⟨HV.out,fun h=>by omega⟩)
     refine wp_region_held_drew (S:=fun w'=>Below W.heap.size W w') (by kernel_rfl) bd (fun hHeld=>?_)
     clear hHeld
     refine tkY 0 zhr (v:=?_) rfl bd ?_ ?_
     rotate_left
     ·intro w hSw
      have f1:=(hSw.cell (p:=⟨gb,0,none⟩) ltb).trans k0
      have f2:=(hSw.cell (p:=⟨gb,1,none⟩) ltb).trans k1
      simp only [zhr];go_simp
      try with_reducible rfl
     try simp only [zhr,Act.put,pA,pB,pC]
     refine wpAnyH_ready (rs:=[1]) (by kernel_rfl) (by simp) ?_
     refine AllReadyH.cons (o:=zhs) rfl (fun K hK=>?_) AllReadyH.nil
     simp only [zhs];go_simp
     refine HZ.out.mono ?_
     rintro e w3 ⟨rfl,b3⟩
     have b4:Below W.heap.size W w3:=undrew b3
     go_wp2_with (fail)
     refine hK.out _ _ b4 (fun hHeld=>?_)
     clear hK K hHeld
     try simp only [zhs,Act.put,pA,pB,pC]
     refine tkY 2 zht (v:=?_) rfl b4 ?_ ?_
     rotate_left
     ·intro w hSw
      simp only [zht];go_simp
      try with_reducible rfl
     try simp only [zht,Act.put,pA,pB,pC]
     refine tkY 3 zhu (v:=?_) rfl b4 ?_ ?_
     rotate_left
     ·intro w hSw
      simp only [zhu];go_simp
      try with_reducible rfl
     try simp only [zhu,Act.put,pA,pB,pC]
     refine tkY 4 zh8 (v:=?_) rfl b4 ?_ ?_
     rotate_left
     ·intro w hSw
      simp only [zh8];go_simp
      try with_reducible rfl
     try simp only [zh8,Act.put,pA,pB,pC]
     refine tkY 5 zh9 (v:=?_) rfl b4 ?_ ?_
     rotate_left
     ·intro w hSw
      simp only [zh9];go_simp
      try with_reducible rfl
     try simp only [zh9,Act.put,pA,pB,pC]
     refine tkY 6 zia (v:=?_) rfl b4 ?_ ?_
     rotate_left
     ·intro w hSw
      simp only [zia];go_simp
      try with_reducible rfl
     try simp only [zia,Act.put,pA,pB,pC]
     refine tkN 7 ziV rfl b4 ?_
     try simp only [ziV,Act.put,pA,pB,pC]
     refine tkN 8 ziW rfl b4 ?_
     try simp only [ziW,Act.put,pA,pB,pC]
     refine tkN 9 ziX rfl b4 ?_
     try simp only [ziX,Act.put,pA,pB,pC]
     refine tkN 10 zfu rfl b4 ?_
     try simp only [zfu,Act.put,pA,pB,pC]
     refine tkN 11 zfv rfl b4 ?_
     try simp only [zfv,Act.put,pA,pB,pC]
     refine tkN 12 zfw rfl b4 ?_
     try simp only [zfw,Act.put,pA,pB,pC]
     refine tkN 13 zfx rfl b4 ?_
     try simp only [zfx,Act.put,pA,pB,pC]
     refine tkN 14 zfy rfl b4 ?_
     try simp only [zfy,Act.put,pA,pB,pC]
     refine tkY 15 zeo (v:=?_) rfl b4 ?_ ?_
     rotate_left
     ·intro w hSw
      simp only [zeo];go_simp
      try with_reducible rfl
     try simp only [zeo,Act.put,pA,pB,pC]
     refine tkY 16 zd2 (v:=?_) rfl b4 ?_ ?_
     rotate_left
     ·intro w hSw
      simp only [zd2];go_simp
      try with_reducible rfl
     try simp only [zd2,Act.put,pA,pB,pC]
     refine wpAnyH_done (by kernel_rfl) ?_ _
     have HB3:=dq (HB.out.trans (b4.mono HB.out.size))
     go_wp2
     go_roundw
     case rel=>exact ⟨1,by omega,rfl,by go_num,HB3,HE2⟩
     case measure=>simp [intOf];omega
    ·obtain ⟨j,rfl⟩:∃ j,k=j+1:=⟨k-1,by omega⟩
     obtain ⟨g2,b2,d2,pb2,pd2,e2,c0',c1',r2,t2⟩:=HRW2.out.at (k:=j) (by rw [HN.out];omega)
     injection e2 with e2;injection e2 with e2
     subst e2
     have HY:Hid (∀ V,Below W.heap.size W V→Calls Tryz.prog 71 #[.agg #[.slice b2 (zab s j).base.length d2,.slice pb2 (zab s j).ps.length pd2],.agg #[.slice b u0 d,.slice pb u1 pd]] V (Tells (zak (zab s j) (zab s (j+1))) V)):=dq (fun V h=>by
      have:=compare18 b2 pb2 b pb d2 pd2 d pd (zab s j) (zab s (j+1)) V (r2.below h) (t2.below h) (HX.out.below h) (HP.out.below h)
      rwa [HU0.out,HU1.out] at this)
     generalize (zab s j).base.length=u2 at c0' HY
     generalize (zab s j).ps.length=u3 at c1' HY
     generalize hcv:zak (zab s j) (zab s (j+1))=cv at HY
     have HCV:=dq hcv
     clear r2 t2 hcv h0
     have q1:(0:Int)<(j:Int)+1:=by omega
     have q2:IntKind.i64.wrap (j:Int)=(j:Int):=IntWalk.i64_in _ (by omega)
     have q3:(0:Int)≤(j:Int):=by omega
     have q4:(j:Int)<(n:Int):=by omega
     have q5:j<n:=by omega
     by_cases hneg:cv<0
     ·have q6:¬(0:Int)≤cv:=by omega
      have q7:decide ((0:Int)≤cv)=false:=by simpa using q6
      have HE2:Hid (zq6 s (j+1+1)):=dq (fun i hi=>by
       by_cases e:i=j+1
       ·subst e
        exact ⟨HV.out,fun _=>by rw [show j+1-1=j from rfl,HCV.out];exact hneg⟩
       ·exact HE.out i (by omega))
      refine wp_region_held_drew (S:=fun w'=>Below W.heap.size W w') (by kernel_rfl) bd (fun hHeld=>?_)
      clear hHeld
      refine tkY 0 zhr (v:=?_) rfl bd ?_ ?_
      rotate_left
      ·intro w hSw
       have f1:=(hSw.cell (p:=⟨gb,0,none⟩) ltb).trans k0
       have f2:=(hSw.cell (p:=⟨gb,1,none⟩) ltb).trans k1
       simp only [zhr];go_simp
       try with_reducible rfl
      try simp only [zhr,Act.put,pA,pB,pC]
      refine wpAnyH_ready (rs:=[1]) (by kernel_rfl) (by simp) ?_
      refine AllReadyH.cons (o:=zhs) rfl (fun K hK=>?_) AllReadyH.nil
      simp only [zhs];go_simp
      refine HZ.out.mono ?_
      rintro e w3 ⟨rfl,b3⟩
      have b4:Below W.heap.size W w3:=undrew b3
      go_wp2_with (fail)
      refine hK.out _ _ b4 (fun hHeld=>?_)
      clear hK K hHeld
      try simp only [zhs,Act.put,pA,pB,pC]
      refine tkY 2 zht (v:=?_) rfl b4 ?_ ?_
      rotate_left
      ·intro w hSw
       simp only [zht];go_simp
       try with_reducible rfl
      try simp only [zht,Act.put,pA,pB,pC]
      refine tkY 3 zhu (v:=?_) rfl b4 ?_ ?_
      rotate_left
      ·intro w hSw
       simp only [zhu];go_simp
       try with_reducible rfl
      try simp only [zhu,Act.put,pA,pB,pC]
      refine tkY 4 zh8 (v:=?_) rfl b4 ?_ ?_
      rotate_left
      ·intro w hSw
       simp only [zh8];go_simp
       try with_reducible rfl
      try simp only [zh8,Act.put,pA,pB,pC]
      refine tkY 5 zh9 (v:=?_) rfl b4 ?_ ?_
      rotate_left
      ·intro w hSw
       simp only [zh9];go_simp
       try with_reducible rfl
      try simp only [zh9,Act.put,pA,pB,pC]
      refine tkY 6 zia (v:=?_) rfl b4 ?_ ?_
      rotate_left
      ·intro w hSw
       simp only [zia];go_simp
       try with_reducible rfl
      try simp only [zia,Act.put,pA,pB,pC]
      refine tkY 7 ziV (v:=?_) rfl b4 ?_ ?_
      rotate_left
      ·intro w hSw
       simp only [ziV];go_simp
       try with_reducible rfl
      try simp only [ziV,Act.put,pA,pB,pC]
      refine tkY 8 ziW (v:=?_) rfl b4 ?_ ?_
      rotate_left
      ·intro w hSw
       simp only [ziW];go_simp
       try with_reducible rfl
      try simp only [ziW,Act.put,pA,pB,pC]
      refine tkY 9 ziX (v:=?_) rfl b4 ?_ ?_
      rotate_left
      ·intro w hSw
       simp only [ziX];go_simp
       try with_reducible rfl
      try simp only [ziX,Act.put,pA,pB,pC]
      refine tkY 10 zfu (v:=?_) rfl b4 ?_ ?_
      rotate_left
      ·intro w hSw
       simp only [zfu];go_simp
       try with_reducible rfl
      try simp only [zfu,Act.put,pA,pB,pC]
      refine tkY 11 zfv (v:=?_) rfl b4 ?_ ?_
      rotate_left
      ·intro w hSw
       have f1:=(hSw.cell (p:=⟨gb,0,none⟩) ltb).trans k0
       have f2:=(hSw.cell (p:=⟨gb,1,none⟩) ltb).trans k1
       have f3:=(hSw.cell (p:=⟨g,j*2,none⟩) ltg).trans c0'
       have f4:=(hSw.cell (p:=⟨g,j*2+1,none⟩) ltg).trans c1'
       simp only [zfv];go_simp
       try with_reducible rfl
      try simp only [zfv,Act.put,pA,pB,pC]
      refine tkY 12 zfw (v:=?_) rfl b4 ?_ ?_
      rotate_left
      ·intro w hSw
       have f1:=(hSw.cell (p:=⟨gb,0,none⟩) ltb).trans k0
       have f2:=(hSw.cell (p:=⟨gb,1,none⟩) ltb).trans k1
       have f3:=(hSw.cell (p:=⟨g,j*2,none⟩) ltg).trans c0'
       have f4:=(hSw.cell (p:=⟨g,j*2+1,none⟩) ltg).trans c1'
       simp only [zfw];go_simp
       try with_reducible rfl
      try simp only [zfw,Act.put,pA,pB,pC]
      refine wpAnyH_ready (rs:=[13]) (by kernel_rfl) (by simp) ?_
      refine AllReadyH.cons (o:=zfx) rfl (fun K hK=>?_) AllReadyH.nil
      simp only [zfx];go_simp
      refine (HY.out w3 b4).mono ?_
      rintro e w5 ⟨rfl,b5⟩
      have b6:Below W.heap.size W w5:=b4.trans (b5.mono b4.size)
      go_wp2_with (fail)
      refine hK.out _ _ b6 (fun hHeld=>?_)
      clear hK K hHeld
      try simp only [zfx,Act.put,pA,pB,pC]
      refine tkY 14 zfy (v:=?_) rfl b6 ?_ ?_
      rotate_left
      ·intro w hSw
       simp only [zfy];go_simp
       try with_reducible rfl
      try simp only [zfy,Act.put,pA,pB,pC]
      refine tkY 15 zeo (v:=?_) rfl b6 ?_ ?_
      rotate_left
      ·intro w hSw
       simp only [zeo];go_simp
       try with_reducible rfl
      try simp only [zeo,Act.put,pA,pB,pC]
      refine tkY 16 zd2 (v:=?_) rfl b6 ?_ ?_
      rotate_left
      ·intro w hSw
       simp only [zd2];go_simp
       try with_reducible rfl
      try simp only [zd2,Act.put,pA,pB,pC]
      refine wpAnyH_done (by kernel_rfl) ?_ _
      have HB3:=dq (HB.out.trans (b6.mono HB.out.size))
      go_wp2
      go_roundw
      case rel=>exact ⟨j+1+1,by omega,rfl,by go_num,HB3,HE2⟩
      case measure=>simp [intOf];omega
     ·have q6:(0:Int)≤cv:=by omega
      have q7:decide ((0:Int)≤cv)=true:=by simpa using q6
      have E:Hid (zam s=false):=dq (zeU (k:=j+1) (by rw [HN.out];exact hlt) (fun h=>by
       have:=h.2 (by omega)
       rw [show j+1-1=j from rfl,HCV.out] at this
       omega))
      refine wp_region_held_drew (S:=fun w'=>Below W.heap.size W w') (by kernel_rfl) bd (fun hHeld=>?_)
      clear hHeld
      refine tkY 0 zhr (v:=?_) rfl bd ?_ ?_
      rotate_left
      ·intro w hSw
       have f1:=(hSw.cell (p:=⟨gb,0,none⟩) ltb).trans k0
       have f2:=(hSw.cell (p:=⟨gb,1,none⟩) ltb).trans k1
       simp only [zhr];go_simp
       try with_reducible rfl
      try simp only [zhr,Act.put,pA,pB,pC]
      refine wpAnyH_ready (rs:=[1]) (by kernel_rfl) (by simp) ?_
      refine AllReadyH.cons (o:=zhs) rfl (fun K hK=>?_) AllReadyH.nil
      simp only [zhs];go_simp
      refine HZ.out.mono ?_
      rintro e w3 ⟨rfl,b3⟩
      have b4:Below W.heap.size W w3:=undrew b3
      go_wp2_with (fail)
      refine hK.out _ _ b4 (fun hHeld=>?_)
      clear hK K hHeld
      try simp only [zhs,Act.put,pA,pB,pC]
      refine tkY 2 zht (v:=?_) rfl b4 ?_ ?_
      rotate_left
      ·intro w hSw
       simp only [zht];go_simp
       try with_reducible rfl
      try simp only [zht,Act.put,pA,pB,pC]
      refine tkY 3 zhu (v:=?_) rfl b4 ?_ ?_
      rotate_left
      ·intro w hSw
       simp only [zhu];go_simp
       try with_reducible rfl
      try simp only [zhu,Act.put,pA,pB,pC]
      refine tkY 4 zh8 (v:=?_) rfl b4 ?_ ?_
      rotate_left
      ·intro w hSw
       simp only [zh8];go_simp
       try with_reducible rfl
      try simp only [zh8,Act.put,pA,pB,pC]
      refine tkY 5 zh9 (v:=?_) rfl b4 ?_ ?_
      rotate_left
      ·intro w hSw
       simp only [zh9];go_simp
       try with_reducible rfl
      try simp only [zh9,Act.put,pA,pB,pC]
      refine tkY 6 zia (v:=?_) rfl b4 ?_ ?_
      rotate_left
      ·intro w hSw
       simp only [zia];go_simp
       try with_reducible rfl
      try simp only [zia,Act.put,pA,pB,pC]
      refine tkY 7 ziV (v:=?_) rfl b4 ?_ ?_
      rotate_left
      ·intro w hSw
       simp only [ziV];go_simp
       try with_reducible rfl
      try simp only [ziV,Act.put,pA,pB,pC]
      refine tkY 8 ziW (v:=?_) rfl b4 ?_ ?_
      rotate_left
      ·intro w hSw
       simp only [ziW];go_simp
       try with_reducible rfl
      try simp only [ziW,Act.put,pA,pB,pC]
      refine tkY 9 ziX (v:=?_) rfl b4 ?_ ?_
      rotate_left
      ·intro w hSw
       simp only [ziX];go_simp
       try with_reducible rfl
      try simp only [ziX,Act.put,pA,pB,pC]
      refine tkY 10 zfu (v:=?_) rfl b4 ?_ ?_
      rotate_left
      ·intro w hSw
       simp only [zfu];go_simp
       try with_reducible rfl
      try simp only [zfu,Act.put,pA,pB,pC]
      refine tkY 11 zfv (v:=?_) rfl b4 ?_ ?_
      rotate_left
      ·intro w hSw
       have f1:=(hSw.cell (p:=⟨gb,0,none⟩) ltb).trans k0
       have f2:=(hSw.cell (p:=⟨gb,1,none⟩) ltb).trans k1
       have f3:=(hSw.cell (p:=⟨g,j*2,none⟩) ltg).trans c0'
       have f4:=(hSw.cell (p:=⟨g,j*2+1,none⟩) ltg).trans c1'
       simp only [zfv];go_simp
       try with_reducible rfl
      try simp only [zfv,Act.put,pA,pB,pC]
      refine tkY 12 zfw (v:=?_) rfl b4 ?_ ?_
      rotate_left
      ·intro w hSw
       have f1:=(hSw.cell (p:=⟨gb,0,none⟩) ltb).trans k0
       have f2:=(hSw.cell (p:=⟨gb,1,none⟩) ltb).trans k1
       have f3:=(hSw.cell (p:=⟨g,j*2,none⟩) ltg).trans c0'
       have f4:=(hSw.cell (p:=⟨g,j*2+1,none⟩) ltg).trans c1'
       simp only [zfw];go_simp
       try with_reducible rfl
      try simp only [zfw,Act.put,pA,pB,pC]
      refine wpAnyH_ready (rs:=[13]) (by kernel_rfl) (by simp) ?_
      refine AllReadyH.cons (o:=zfx) rfl (fun K hK=>?_) AllReadyH.nil
      simp only [zfx];go_simp
      refine (HY.out w3 b4).mono ?_
      rintro e w5 ⟨rfl,b5⟩
      have b6:Below W.heap.size W w5:=b4.trans (b5.mono b4.size)
      go_wp2_with (fail)
      refine hK.out _ _ b6 (fun hHeld=>?_)
      clear hK K hHeld
      try simp only [zfx,Act.put,pA,pB,pC]
      refine tkY 14 zfy (v:=?_) rfl b6 ?_ ?_
      rotate_left
      ·intro w hSw
       simp only [zfy];go_simp
       try with_reducible rfl
      try simp only [zfy,Act.put,pA,pB,pC]
      refine tkY 15 zeo (v:=?_) rfl b6 ?_ ?_
      rotate_left
      ·intro w hSw
       simp only [zeo];go_simp
       try with_reducible rfl
      try simp only [zeo,Act.put,pA,pB,pC]
      refine tkY 16 zd2 (v:=?_) rfl b6 ?_ ?_
      rotate_left
      ·intro w hSw
       simp only [zd2];go_simp
       try with_reducible rfl
      try simp only [zd2,Act.put,pA,pB,pC]
      refine wpAnyH_done (by kernel_rfl) ?_ _
      have HB3:=dq (HB.out.trans (b6.mono HB.out.size))
      go_wp2
      go_ret
      exact ⟨by rw [E.out];try rfl,HB3.out⟩
  ·have E:Hid (zam s=true):=dq ((zbt s).2 (by rw [HN.out];exact fun j hj=>HE.out j (by omega)))
   go_wp2
   go_ret
   exact ⟨by rw [E.out];try rfl,HB.out⟩
end Go.Proofs.YtmnkjekjknhhjaaGreatDoor
namespace Go.Proofs.YtmnkjekjknhhjaaGreatDoor
open Go.ChangeShapes Go.WideShapes Go.ChangeAt Go.RowKit
end Go.Proofs.YtmnkjekjknhhjaaGreatDoor
