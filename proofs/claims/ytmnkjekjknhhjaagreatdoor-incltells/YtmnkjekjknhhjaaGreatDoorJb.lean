import Derived.Test.YtmnkjekjknhhjaaGreatDoorCd
import Derived.Test.YtmnkjekjknhhjaaGreatDoorC
import Derived.Deep.RegionHeld3
namespace Go.Proofs.YtmnkjekjknhhjaaGreatDoor
open Go.ChangeShapes Go.WideShapes Go.ChangeAt Go.RowKit
def zsG:Oper:=⟨some 44,.fieldAddr 53 (.tmp 2) 1,0,"ref.go:271",#[],none⟩
def zsH:Oper:=⟨some 45,.load 51 (.tmp 44),51,"ref.go:271",#[⟨0,.data⟩],none⟩
def zsI:Oper:=⟨some 46,.move (.tmp 6),3,"ref.go:271",#[],none⟩
def zsJ:Oper:=⟨some 47,.indexAddr 51 (.tmp 45) (.tmp 46),0,"ref.go:271",#[⟨1,.data⟩,⟨2,.data⟩],none⟩
def zsK:Oper:=⟨some 48,.load 31 (.tmp 47),31,"ref.go:271",#[⟨3,.data⟩],none⟩
def zsL:Oper:=⟨some 49,.fieldAddr 53 (.tmp 3) 1,0,"ref.go:271",#[],none⟩
def zsM:Oper:=⟨some 50,.load 51 (.tmp 49),51,"ref.go:271",#[⟨5,.data⟩],none⟩
def zsN:Oper:=⟨some 51,.move (.tmp 6),3,"ref.go:271",#[],none⟩
def zsO:Oper:=⟨some 52,.indexAddr 51 (.tmp 50) (.tmp 51),0,"ref.go:271",#[⟨6,.data⟩,⟨7,.data⟩],none⟩
def zsP:Oper:=⟨some 53,.load 31 (.tmp 52),31,"ref.go:271",#[⟨8,.data⟩],none⟩
def zpk:Oper:=⟨some 54,.call {callee:=.value (.func 115),args:=#[.tmp 48,.tmp 53],argTypes:=#[31,31]},3,"ref.go:271",#[⟨4,.data⟩,⟨9,.data⟩],none⟩
def zpl:Oper:=⟨some 7,.assign (.tmp 54),3,"ref.go:271",#[⟨10,.data⟩,⟨10,.chain⟩,⟨0,.phase⟩,⟨1,.phase⟩,⟨2,.phase⟩,⟨3,.phase⟩,⟨4,.phase⟩,⟨5,.phase⟩,⟨6,.phase⟩,⟨7,.phase⟩,⟨8,.phase⟩,⟨9,.phase⟩,⟨10,.phase⟩],none⟩
structure TwoSt (w:World) (gb:Nat) (a pa a' pa':Option Addr) (c n pc m c' n' pc' m':Nat) (x y:Lin) (W:World):Prop where
 bel:Below w.heap.size w W
 lx:Lies W gb 53 [.slice a n c,.slice pa m pc]
 ly:Lies W (gb+1) 53 [.slice a' n' c',.slice pa' m' pc']
 bx:Bag W a c x.base
 px:Bags W pa pc x.ps
 bY:Bag W a' c' y.base
 pY:Bags W pa' pc' y.ps
theorem TwoSt.below {w W W':World} {gb:Nat} {a pa a' pa':Option Addr} {c n pc m c' n' pc' m':Nat} {x y:Lin} (h:TwoSt w gb a pa a' pa' c n pc m c' n' pc' m' x y W) (k:Below W.heap.size W W'):TwoSt w gb a pa a' pa' c n pc m c' n' pc' m' x y W':=
 ⟨h.bel.trans (k.mono h.bel.size),h.lx.below k h.lx.lt,h.ly.below k h.ly.lt,h.bx.below k,h.px.below k,h.bY.below k,h.pY.below k⟩
theorem zol {a b:List (List Int)} {k:Nat} (ha:k<a.length) (hb:k<b.length):cmpPs (a.drop k) (b.drop k)=orI (cmpL (a.getD k []) (b.getD k [])) (cmpPs (a.drop (k+1)) (b.drop (k+1))):=by
 have e1:a.getD k []=a[k]:=by simp [List.getD,ha]
 have e2:b.getD k []=b[k]:=by simp [List.getD,hb]
 rw [List.drop_eq_getElem_cons ha,List.drop_eq_getElem_cons hb,e1,e2];rfl
set_option maxRecDepth 100000 in
set_option maxHeartbeats 4000000 in
theorem zdw (a pa a' pa':Option Addr) (c pc c' pc':Nat) (x y:Lin) (w:World) (R:Bag w a c x.base) (P:Bags w pa pc x.ps) (R':Bag w a' c' y.base) (P':Bags w pa' pc' y.ps) :
  Calls Tryz.prog 80 #[.agg #[.slice a x.base.length c,.slice pa x.ps.length pc],.agg #[.slice a' y.base.length c',.slice pa' y.ps.length pc']] w (Tells (zak x y) w):=by
 have hle:=P.le
 have hle':=P'.le
 obtain ⟨n,hn⟩:∃ n,n=x.base.length:=⟨_,rfl⟩
 obtain ⟨m,hm⟩:∃ m,m=x.ps.length:=⟨_,rfl⟩
 obtain ⟨n',hn'⟩:∃ n,n=y.base.length:=⟨_,rfl⟩
 obtain ⟨m',hm'⟩:∃ m,m=y.ps.length:=⟨_,rfl⟩
 have HS:Hid (TwoSt w w.heap.size a pa a' pa' c n pc m c' n' pc' m' x y ((w.alloc (.cells #[.slice a n c,.slice pa m pc] 53)).alloc (.cells #[.slice a' n' c',.slice pa' m' pc'] 53))):=dq (by
  have b1:=below_alloc w (.cells #[.slice a n c,.slice pa m pc] 53)
  have b2:=below_alloc (w.alloc (.cells #[.slice a n c,.slice pa m pc] 53)) (.cells #[.slice a' n' c',.slice pa' m' pc'] 53)
  have l1:=Lies.new w 53 [.slice a n c,.slice pa m pc]
  have l2:=Lies.new (w.alloc (.cells #[.slice a n c,.slice pa m pc] 53)) 53 [.slice a' n' c',.slice pa' m' pc']
  exact ⟨b1.trans (b2.mono b1.size),l1.alloc _,by simpa using l2,(R.below b1).below b2,(P.below b1).below b2,(R'.below b1).below b2,(P'.below b1).below b2⟩)
 rw [←hm] at hle
 rw [←hm'] at hle'
 rw [←hn,←hm,←hn',←hm']
 have HN:=dq hn.symm
 have HM:=dq hm.symm
 have HN':=dq hn'.symm
 have HM':=dq hm'.symm
 clear R P R' P' hn hm hn' hm'
 go_enter Tryz.func80,Tryz.ntmps80
 go_wp2_with (fail)
 generalize ((w.alloc (.cells #[.slice a n c,.slice pa m pc] 53)).alloc (.cells #[.slice a' n' c',.slice pa' m' pc'] 53))=W at HS ⊢
 generalize w.heap.size=gb at HS ⊢
 have Z:=za5 a pa c pc x W HS.out.bx HS.out.px
 rw [HN.out,HM.out] at Z
 refine Z.mono ?_
 rintro e w1 ⟨rfl,b1⟩
 clear Z
 have HS1:=dq (HS.out.below b1)
 clear b1 HS
 have y0:=HS1.out.ly.cell 0
 have y1:=HS1.out.ly.cell 1
 simp only [List.getElem?_cons_zero,List.getElem?_cons_succ] at y0 y1
 cases hx:rightLin x with
 | false=>
  have E:Hid (zak x y=0):=dq (by simp [zak,hx])
  clear hx
  go_wp2
  go_ret
  exact ⟨by rw [E.out];try rfl,HS1.out.bel⟩
 | true=>
  have HRX:=dq hx
  clear hx
  have Z:=za5 a' pa' c' pc' y w1 HS1.out.bY HS1.out.pY
  rw [HN'.out,HM'.out] at Z
  go_wp2_with (fail)
  refine Z.mono ?_
  rintro e w2 ⟨rfl,b2⟩
  clear Z y0 y1
  have HS2:=dq (HS1.out.below b2)
  clear b2 HS1
  have x0:=HS2.out.lx.cell 0
  have y0:=HS2.out.ly.cell 0
  simp only [List.getElem?_cons_zero] at x0 y0
  cases hy:rightLin y with
  | false=>
   have E:Hid (zak x y=0):=dq (by simp [zak,hy])
   clear hy
   go_wp2
   go_ret
   exact ⟨by rw [E.out];try rfl,HS2.out.bel⟩
  | true=>
   have HC:Hid (zak x y=orI (cmpL x.base y.base) (orI (sgn m m') (cmpPs x.ps y.ps))):=dq (by
    have h1:=HRX.out
    simp only [zak,h1,hy,Bool.and_self,if_true,HM.out,HM'.out])
   clear hy
   have Z:=zoh a a' c c' x.base y.base w2 HS2.out.bx HS2.out.bY
   rw [HN.out,HN'.out] at Z
   generalize hv:cmpL x.base y.base=v at Z HC
   clear hv
   go_wp2_with (fail)
   refine Z.mono ?_
   rintro e w3 ⟨rfl,b3⟩
   clear Z x0 y0
   have HS3:=dq (HS2.out.below b3)
   clear b3 HS2
   have x1:=HS3.out.lx.cell 1
   have y1:=HS3.out.ly.cell 1
   simp only [List.getElem?_cons_zero,List.getElem?_cons_succ] at x1 y1
   by_cases h0:v=0
   ·subst h0
    by_cases hl:m=m'
    ·subst hl
     have HC2:Hid (zak x y=cmpPs (x.ps.drop 0) (y.ps.drop 0)):=dq (by rw [HC.out];simp [orI,sgn])
     clear HC
     go_wp2
     clear x1 y1
     go_loopw [4,41] (fun r i wr=>∃ k:Nat,k≤m∧r=.int .i64 0∧i=.int .i64 k∧Hid (TwoSt w gb a pa a' pa' c n pc m c' n' pc' m x y wr)∧Hid (zak x y=cmpPs (x.ps.drop k) (y.ps.drop k))) (fun _ i _=>m-(intOf i).toNat)
     case atStart=>exact ⟨0,by omega,rfl,rfl,HS3,HC2⟩
     case round=>
      clear HS3 HC2
      obtain ⟨k,hk,rfl,rfl,HT,HC⟩:=hrel
      by_cases hlt:k<m
      ·obtain ⟨g,b,d,ep,hc,hb⟩:=HT.out.px.at (k:=k) (by rw [HM.out];exact hlt)
       obtain ⟨g',b',d',ep',hc',hb'⟩:=HT.out.pY.at (k:=k) (by rw [HM'.out];exact hlt)
       have ltg:=HT.out.px.lt ep
       have ltg':=HT.out.pY.lt ep'
       have ltx:=HT.out.lx.lt
       have lty:=HT.out.ly.lt
       have x1:=HT.out.lx.cell 1
       have y1:=HT.out.ly.cell 1
       simp only [List.getElem?_cons_zero,List.getElem?_cons_succ] at x1 y1
       have bd:Below wr.heap.size wr wr.drew:=⟨rfl,rfl,rfl,Nat.le_refl _,fun _ _=>rfl⟩
       have HC2:Hid (zak x y=orI (cmpL (x.ps.getD k []) (y.ps.getD k [])) (cmpPs (x.ps.drop (k+1)) (y.ps.drop (k+1)))):=dq (by
        rw [HC.out];exact zol (by rw [HM.out];exact hlt) (by rw [HM'.out];exact hlt))
       have Z:=zoh b b' d d' (x.ps.getD k []) (y.ps.getD k []) wr.drew (hb.below bd) (hb'.below bd)
       generalize hu:(x.ps.getD k []).length=u at hc Z
       generalize hu':(y.ps.getD k []).length=u' at hc' Z
       generalize hv:cmpL (x.ps.getD k []) (y.ps.getD k [])=v at Z HC2
       have HZ:=dq Z
       clear Z hb hb' hu hu' hv HC
       subst ep
       subst ep'
       go_wp2_with (fail)
       refine wp_region_held_drew (S:=fun w'=>Below wr.heap.size wr w') (by kernel_rfl) bd (fun hHeld=>?_)
       clear hHeld
       refine tkY 0 zsG (v:=?_) rfl bd ?_ ?_
       rotate_left
       ·intro w hSw
        simp only [zsG];go_simp
        try with_reducible rfl
       try simp only [zsG,Act.put,pA,pB,pC]
       refine tkY 1 zsH (v:=?_) rfl bd ?_ ?_
       rotate_left
       ·intro w hSw
        have f1:=(hSw.cell (p:=⟨gb,1,none⟩) ltx).trans x1
        have f2:=(hSw.cell (p:=⟨gb+1,1,none⟩) lty).trans y1
        have f3:=(hSw.cell (p:=⟨g,k,none⟩) ltg).trans hc
        have f4:=(hSw.cell (p:=⟨g',k,none⟩) ltg').trans hc'
        simp only [zsH];go_simp
        try with_reducible rfl
       try simp only [zsH,Act.put,pA,pB,pC]
       refine tkY 2 zsI (v:=?_) rfl bd ?_ ?_
       rotate_left
       ·intro w hSw
        simp only [zsI];go_simp
        try with_reducible rfl
       try simp only [zsI,Act.put,pA,pB,pC]
       refine tkY 3 zsJ (v:=?_) rfl bd ?_ ?_
       rotate_left
       ·intro w hSw
        simp only [zsJ];go_simp
        try with_reducible rfl
       try simp only [zsJ,Act.put,pA,pB,pC]
       refine tkY 4 zsK (v:=?_) rfl bd ?_ ?_
       rotate_left
       ·intro w hSw
        have f1:=(hSw.cell (p:=⟨gb,1,none⟩) ltx).trans x1
        have f2:=(hSw.cell (p:=⟨gb+1,1,none⟩) lty).trans y1
        have f3:=(hSw.cell (p:=⟨g,k,none⟩) ltg).trans hc
        have f4:=(hSw.cell (p:=⟨g',k,none⟩) ltg').trans hc'
        simp only [zsK];go_simp
        try with_reducible rfl
       try simp only [zsK,Act.put,pA,pB,pC]
       refine tkY 5 zsL (v:=?_) rfl bd ?_ ?_
       rotate_left
       ·intro w hSw
        simp only [zsL];go_simp
        try with_reducible rfl
       try simp only [zsL,Act.put,pA,pB,pC]
       refine tkY 6 zsM (v:=?_) rfl bd ?_ ?_
       rotate_left
       ·intro w hSw
        have f1:=(hSw.cell (p:=⟨gb,1,none⟩) ltx).trans x1
        have f2:=(hSw.cell (p:=⟨gb+1,1,none⟩) lty).trans y1
        have f3:=(hSw.cell (p:=⟨g,k,none⟩) ltg).trans hc
        have f4:=(hSw.cell (p:=⟨g',k,none⟩) ltg').trans hc'
        simp only [zsM];go_simp
        try with_reducible rfl
       try simp only [zsM,Act.put,pA,pB,pC]
       refine tkY 7 zsN (v:=?_) rfl bd ?_ ?_
       rotate_left
       ·intro w hSw
        simp only [zsN];go_simp
        try with_reducible rfl
       try simp only [zsN,Act.put,pA,pB,pC]
       refine tkY 8 zsO (v:=?_) rfl bd ?_ ?_
       rotate_left
       ·intro w hSw
        simp only [zsO];go_simp
        try with_reducible rfl
       try simp only [zsO,Act.put,pA,pB,pC]
       refine tkY 9 zsP (v:=?_) rfl bd ?_ ?_
       rotate_left
       ·intro w hSw
        have f1:=(hSw.cell (p:=⟨gb,1,none⟩) ltx).trans x1
        have f2:=(hSw.cell (p:=⟨gb+1,1,none⟩) lty).trans y1
        have f3:=(hSw.cell (p:=⟨g,k,none⟩) ltg).trans hc
        have f4:=(hSw.cell (p:=⟨g',k,none⟩) ltg').trans hc'
        simp only [zsP];go_simp
        try with_reducible rfl
       try simp only [zsP,Act.put,pA,pB,pC]
       refine wpAnyH_ready (rs:=[10]) (by kernel_rfl) (by simp) ?_
       refine AllReadyH.cons (o:=zpk) rfl (fun K hK=>?_) AllReadyH.nil
       simp only [zpk];go_simp
       refine HZ.out.mono ?_
       rintro e w3 ⟨rfl,b3⟩
       have b4:Below wr.heap.size wr w3:=undrew b3
       go_wp2_with (fail)
       refine hK.out _ _ b4 (fun hHeld=>?_)
       clear hK K hHeld
       try simp only [zpk,Act.put,pA,pB,pC]
       refine tkY 11 zpl (v:=?_) rfl b4 ?_ ?_
       rotate_left
       ·intro w hSw
        simp only [zpl];go_simp
        try with_reducible rfl
       try simp only [zpl,Act.put,pA,pB,pC]
       refine wpAnyH_done (by kernel_rfl) ?_ _
       have HT3:=dq (HT.out.below b4)
       clear b3 b4 HZ HT x1 y1 hc hc' bd
       by_cases h1:v=0
       ·subst h1
        have HC3:Hid (zak x y=cmpPs (x.ps.drop (k+1)) (y.ps.drop (k+1))):=dq (by rw [HC2.out];simp [orI])
        go_wp2
        go_roundw
        case rel=>exact ⟨k+1,by omega,rfl,by go_num,HT3,HC3⟩
        case measure=>simp [intOf];omega
       ·have h2:(v==0)=false:=by simpa using h1
        have E:Hid (zak x y=v):=dq (by rw [HC2.out];simp [orI,h1])
        clear HC2
        go_wp2
        go_ret
        exact ⟨by rw [E.out];try rfl,HT3.out.bel⟩
      ·obtain rfl:m=k:=by omega
       have E:Hid (zak x y=0):=dq (by
        rw [HC.out,List.drop_eq_nil_of_le (by rw [HM.out];exact Nat.le_refl _)];rfl)
       go_wp2
       go_ret
       exact ⟨by rw [E.out];try rfl,HT.out.bel⟩
    ·by_cases h3:m<m'
     ·have E:Hid (zak x y = -1):=dq (by
       rw [HC.out]
       have:((m:Int)<(m':Int)):=by omega
       simp [orI,sgn,this])
      clear HC
      go_wp2
      go_ret
      exact ⟨by rw [E.out];try rfl,HS3.out.bel⟩
     ·have E:Hid (zak x y=1):=dq (by
       rw [HC.out]
       have h4:¬((m:Int)<(m':Int)):=by omega
       have h5:((m':Int)<(m:Int)):=by omega
       simp only [orI,sgn,if_pos,h4,h5,if_false]
       simp)
      clear HC
      go_wp2
      go_ret
      exact ⟨by rw [E.out];try rfl,HS3.out.bel⟩
   ·have h2:(v==0)=false:=by simpa using h0
    have E:Hid (zak x y=v):=dq (by rw [HC.out];simp [orI,h0])
    clear HC
    go_wp2
    go_ret
    exact ⟨by rw [E.out];try rfl,HS3.out.bel⟩
end Go.Proofs.YtmnkjekjknhhjaaGreatDoor
