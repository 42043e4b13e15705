import Derived.Test.YtmnkjekjknhhjaaGreatDoorXb
import Derived.Test.YtmnkjekjknhhjaaGreatDoorHa
import Derived.Deep.RegionHeld3
import Derived.Deep.AppendLies
import Derived.Maps.AppendAt
import Derived.Lib.BufferRead
import Derived.Test.YtmnkjekjknhhjaaGreatDoorTq
import Derived.Maps.OwnOps
import Derived.Maps.OwnSet
import Derived.Maps.Views
import Derived.StringKeys
import Derived.Lib.AppendIntMem
namespace Go.Proofs.YtmnkjekjknhhjaaGreatDoor
open Go.ChangeShapes Go.WideShapes Go.ChangeAt Go.RowKit
set_option maxRecDepth 100000 in
theorem zva (ty:TypeId) {w:World} {B:Nat} {v:Value} {l:List UInt8} (hB:B≤w.heap.size) (h:OwnU w B v l) (hl:l.length≤100000000000000) (x:UInt8) (y:Value) (hy:y=.int .u8 (x.toNat:Int)) :
  ∃ v' w',(Builtin.append_ #[165,165] ty #[v,.slice (some ⟨w.heap.size,0,none⟩) 1 1]).run Tryz.prog (w.alloc (.cells #[y] 5))=.ok v' w'∧OwnU w' B v' (l++[x])∧Below B w w'∧Lib.OthersKept 5 none w w':=by
 subst hy
 obtain ⟨i,hi,hz,hsz,hby⟩:=info_parts Tryz.info5o
 obtain ⟨v',w',hr,h2,h3,_,_⟩:=run_append_own_at (P:=Tryz.prog) (w.alloc (.cells #[.int .u8 (x.toNat:Int)] 5)) B 165 ty 5 i _ 1 1 Tryz.underlying165 hi hz hsz hby (by simp [Value.cells]) (by omega) v l.length (Lib.byteCells l) (World.ownsRow.alloc h _)
  ⟨w.heap.size,0,none⟩ 1 1 [.int .u8 (x.toNat:Int)] rfl (by intro j u' hj;match j,hj with | 0,hj=>simp at hj;subst hj;simp [Addr.add]) (by intro u' hu';simp at hu';subst hu';rfl) (by unfold maxLen;omega) (by omega) (by simp;omega)
 exact ⟨v',w',hr,OwnU.push hB h h2 h3⟩
def keyK (cs:List Int) (l:List It) (k:Nat):List UInt8:=wordB cs++(l.take k).flatMap zfm
theorem zqT {cs:List Int} {l:List It} {k:Nat} (hk:k<l.length):keyK cs l (k+1)=keyK cs l k++zfm (itAt l k):=by
 unfold keyK
 rw [List.take_succ_eq_append_getElem hk,List.flatMap_append,←List.append_assoc,za3 hk]
 simp
theorem zmZ {w:World} {B:Nat} {v:Value} {l:List UInt8} (h:OwnU w B v l):(convert 165 9 v).run Tryz.prog w=.ok (.string ⟨l.toArray⟩) w:=by
 obtain ⟨a,c,rfl,R,_⟩:=zhN h
 rcases R with ⟨rfl,rfl,e⟩ | ⟨g,sp,rfl,_,_,L⟩
 ·have:l=[]:=List.eq_nil_of_length_eq_zero (by have:=congrArg List.length e;simpa [Lib.byteCells] using this)
  subst this
  exact Lib.run_convert_nil_bytes w 165 9 5 0 Tryz.underlying165 Tryz.underlying5 Tryz.underlying9
 ·have hcell:∀ j (hj:j<l.length),w.cell? ((⟨g,0,none⟩:Addr).add j)=some (.int .u8 ((l[j]).toNat:Int)):=fun j hj=>by
   have:=zfW (j:=j) (v:=.int .u8 ((l[j]).toNat:Int)) L (by simp [Lib.byteCells,hj])
   rw [Addr.add_lit]
   exact this
  have:=run_convert_bytes_back (P:=Tryz.prog) w 165 9 5 ⟨g,0,none⟩ c l Tryz.underlying165 Tryz.underlying5 Tryz.underlying9 hcell
  rw [Lib.byteCells_length]
  exact this
set_option maxRecDepth 100000 in
set_option maxHeartbeats 4000000 in
theorem zuJ (ca la:Option Addr) (cc lc:Nat) (cs:List Int) (l:List It) (wv:Value) (w:World) (hC:Bag w ca cc cs) (hL:Its w la lc l) (hr:zaa cs=true) (hi:zfl l) (hl:l.length≤50000000) (htab:Lib.TabIs Tryz.prog w "internal/strconv.uint64pow10" .u64 Lib.pow10Tab) :
  Calls Tryz.prog 117 #[.agg #[.slice ca cs.length cc,.slice la l.length lc,wv]] w (fun e w'=>e=.returned (.string ⟨(zo0 cs l).toArray⟩)∧Below w.heap.size w w'):=by
 have HC:=dq hC
 have HL:=dq hL
 have HRT:=dq hr
 have HI:=dq hi
 have hle:=hL.le
 have h12:cs.length≤12:=(zac.1 hr).1
 have HKL:Hid (∀ k,(keyK cs l k).length≤264+286*l.length):=dq (fun k=>by
  have h1:=zn9 (l:=l.take k) hr (fun z hz=>hi z (List.mem_of_mem_take hz))
  have h2:(l.take k).length≤l.length:=by rw [List.length_take];omega
  have h3:keyK cs l k=zo0 cs (l.take k):=rfl
  rw [h3]
  omega)
 have HKE:Hid (keyK cs l l.length=zo0 cs l):=dq (by unfold keyK zo0;rw [List.take_length])
 have HK0:Hid (wordB cs=keyK cs l 0):=dq (by simp [keyK])
 have HW:Hid (Below w.heap.size w (w.alloc (.cells #[.slice ca cs.length cc,.slice la l.length lc,wv] 128))):=dq (below_alloc _ _)
 have HP0:Hid (Lies (w.alloc (.cells #[.slice ca cs.length cc,.slice la l.length lc,wv] 128)) w.heap.size 128 [.slice ca cs.length cc,.slice la l.length lc,wv]):=dq (Lies.new _ _ _)
 have HTB:Hid (Lib.TabIs Tryz.prog (w.alloc (.cells #[.slice ca cs.length cc,.slice la l.length lc,wv] 128)) "internal/strconv.uint64pow10" .u64 Lib.pow10Tab):=dq (Lib.tabBelow_of_tabIs htab _ HW.out)
 have Z:=fun W (h:Below w.heap.size w W) (t:Lib.TabIs Tryz.prog W "internal/strconv.uint64pow10" .u64 Lib.pow10Tab)=>zgB W.heap.size (.slice none 0 0) [] ca cc cs W (zsc W _) (Nat.le_refl _) (HC.out.below h) HRT.out (fun g e=>(HC.out.below h).lt e) (by simp) (Lib.tabBelow_of_tabIs t)
 generalize hn:cs.length=n at h12 HW HP0 HTB Z ⊢
 generalize hm:l.length=m at hle hl HKL HKE HW HP0 HTB ⊢
 have HN:=dq hn
 have HM:=dq hm
 clear hC hL hr hi hn hm
 have HZ:=dq (Z _ HW.out HTB.out)
 clear Z
 go_enter Tryz.func117,Tryz.ntmps117
 go_wp2_with (fail)
 refine HZ.out.mono ?_
 clear HZ
 generalize w.alloc (.cells #[.slice ca n cc,.slice la m lc,wv] 128)=W1 at HW HP0 HTB ⊢
 generalize hgb:w.heap.size=gb at HP0 ⊢
 have HGB:=dq hgb
 clear hgb
 rintro e w1 ⟨v1,rfl,o1,b1,k1⟩
 have HP1:=dq (HP0.out.others (by decide) k1)
 have p1:=HP1.out.cell 1
 simp only [List.getElem?_cons_zero,List.getElem?_cons_succ] at p1
 rw [List.nil_append,HK0.out] at o1
 have HO1:=dq o1
 have HB1:Hid (Below W1.heap.size W1 w1∧Lib.OthersKept 5 none W1 w1):=dq ⟨b1,k1⟩
 have HTW:=dq (Lib.tabBelow_of_tabIs HTB.out)
 have HL1:=dq (HL.out.below HW.out)
 obtain ⟨B,hB⟩:∃ B,B=W1.heap.size:=⟨_,rfl⟩
 rw [←hB] at HO1 HB1 HTW
 have HBS:Hid (B≤W1.heap.size):=dq (by omega)
 have HBE:=dq hB
 clear o1 b1 k1 HK0 HP0 hB HTB HC
 go_wp2
 go_loopw [3,12] (fun v i wr=>∃ k:Nat,k≤m∧i=.int .i64 k∧Hid (OwnU wr B v (keyK cs l k))∧Hid (Below B W1 wr∧Lib.OthersKept 5 none W1 wr)) (fun _ i _=>m-(intOf i).toNat)
 case atStart=>exact ⟨0,Nat.zero_le _,rfl,HO1,HB1⟩
 case round=>
  clear HO1 HB1 p1 HP1
  obtain ⟨k,hk,rfl,HO,HB⟩:=hrel
  by_cases hlt:k<m
  ·obtain ⟨g,b,d,e1,c00,c11,B0⟩:=HL1.out.at (k:=k) (by rw [HM.out];exact hlt)
   subst e1
   have hlg:g<W1.heap.size:=HL1.out.lt rfl
   have hBr:Below W1.heap.size W1 wr:=by have:=HB.out.1;rw [HBE.out] at this;exact this
   have c0:=(hBr.cell (p:=⟨g,k*2,none⟩) hlg).trans c00
   have c1:=(hBr.cell (p:=⟨g,k*2+1,none⟩) hlg).trans c11
   have hmem:itAt l k∈l:=by rw [za3 (by rw [HM.out];exact hlt)];exact List.getElem_mem _
   obtain ⟨hri,hj0,hj1⟩:=HI.out _ hmem
   have HFL:=dq (zqT (cs:=cs) (l:=l) (k:=k) (by rw [HM.out];exact hlt))
   have hlk:=HKL.out k
   have hble:=B0.le
   generalize hk1:keyK cs l (k+1)=lk1 at HFL
   have HK1:=dq hk1
   clear hk1
   generalize keyK cs l k=lk at HO HFL hlk
   generalize itAt l k=z at c0 c1 B0 hri hj0 hj1 HFL hble c00 c11
   obtain ⟨j,xs⟩:=z
   obtain ⟨jn,rfl⟩:∃ jn:Nat,j=jn:=⟨j.toNat,by have:0≤j:=hj0;omega⟩
   have hjn:jn<65536:=by have:(jn:Int)<65536:=hj1;omega
   simp only at c0 c1 B0 hri HFL hble
   have HZA:Hid (∀ V v' L,OwnU V B v' L→Below B W1 V→L.length≤100000000000→Calls Tryz.prog 136 #[v',.slice b xs.length d] V (fun e w'=>∃ v'',e=.returned v''∧OwnU w' B v'' (L++wordB xs)∧Below B V w'∧Lib.OthersKept 5 none V w')):=dq (fun V v' L o h hl=>by
    have h':Below W1.heap.size W1 V:=by rw [HBE.out] at h;exact h
    exact zgB B v' L b d xs V o (by rw [HBE.out];exact h'.size) (B0.below h') hri (fun g e=>by rw [HBE.out];exact B0.lt e) hl (HTW.out.on h))
   generalize hu:xs.length=u at c1 hble HZA
   have hbr:B≤wr.heap.size:=by rw [HBE.out];exact hBr.size
   have HX:=dq (Lies.new wr 111 [.int .i64 (jn:Int),.slice b u d])
   have HOA:Hid (OwnU (wr.alloc (.cells #[.int .i64 (jn:Int),.slice b u d] 111)) B u3 lk):=dq (World.ownsRow.alloc HO.out _)
   have HBA:Hid (Below B W1 (wr.alloc (.cells #[.int .i64 (jn:Int),.slice b u d] 111))∧Lib.OthersKept 5 none W1 (wr.alloc (.cells #[.int .i64 (jn:Int),.slice b u d] 111))):=dq ⟨HB.out.1.alloc hbr _,HB.out.2.alloc _⟩
   have hlj:(lk++Lib.itoa (jn:Int)).length≤100000000000000∧(lk++Lib.itoa (jn:Int)++[58]).length≤100000000000:=by
    have:=Lib.itoa_length_le (jn:Int) (by omega) (by omega)
    simp only [List.length_append,List.length_singleton]
    omega
   obtain ⟨hlj,hlc⟩:=hlj
   have Z:=Tryz.strconv_AppendInt_10 B lk.length (jn:Int) (by omega) (by omega) u3 (Lib.byteCells lk) _ HOA.out (by have:=HBA.out.1.size;rw [HBE.out];exact this) (by omega) (HTW.out.on HBA.out.1)
   have HZ:=dq Z
   have i1:(0:Int)≤(k:Int):=by omega
   have i2:(k:Int)<(m:Int):=by omega
   clear Z B0 hri hj0 hj1 hmem hu HO HB hBr c00 c11 hbr
   go_wp2_with (fail)
   generalize wr.alloc (.cells #[.int .i64 (jn:Int),.slice b u d] 111)=W0 at HX HOA HBA HZ ⊢
   generalize wr.heap.size=gx at HX ⊢
   refine HZ.out.mono ?_
   clear HZ
   rintro e W ⟨v2,rfl,o2,b2,k2⟩
   have HO2:=dq (OwnU.num o2)
   have HB2:Hid (Below B W1 W∧Lib.OthersKept 5 none W1 W):=dq ⟨HBA.out.1.trans b2,HBA.out.2.trans k2⟩
   have HX2:=dq (HX.out.others (by decide) k2)
   clear o2 b2 k2 HX HOA HBA c0 c1 hlg
   go_upto_region 6 with (fail)
   have bd:Lies W.drew gx 111 [.int .i64 (jn:Int),.slice b u d]:=HX2.out
   clear HX2
   refine wp_region_held_drew (S:=fun V=>Lies V gx 111 [.int .i64 (jn:Int),.slice b u d]) (by kernel_rfl) bd (fun hHeld=>?_)
   clear hHeld
   refine wpAnyH_take (i:=0) (oi:=⟨some 20,.move (.tmp 3),165,"search.go:130",#[],none⟩) (v:=?_) rfl (by kernel_rfl) (by kernel_rfl) (by kernel_rfl) (fun _ _ _ h=>h) (Or.inl ⟨by rfl,?_⟩) bd ?_
   rotate_left
   ·intro w hSw
    go_simp
    try with_reducible rfl
   try simp only [Act.put,List.setIfInBounds_toArray,List.set_cons_zero,List.set_cons_succ]
   refine wpAnyH_take (i:=3) (oi:=⟨some 23,.fieldAddr 111 (.tmp 5) 1,0,"search.go:130",#[],none⟩) (v:=?_) rfl (by kernel_rfl) (by kernel_rfl) (by kernel_rfl) (fun _ _ _ h=>h) (Or.inl ⟨by rfl,?_⟩) bd ?_
   rotate_left
   ·intro w hSw
    go_simp
    try with_reducible rfl
   try simp only [Act.put,List.setIfInBounds_toArray,List.set_cons_zero,List.set_cons_succ]
   refine wpAnyH_take (i:=4) (oi:=⟨some 24,.load 31 (.tmp 23),31,"search.go:130",#[⟨3,.data⟩],none⟩) (v:=?_) rfl (by kernel_rfl) (by kernel_rfl) (by kernel_rfl) (fun _ _ _ h=>h) (Or.inl ⟨by rfl,?_⟩) bd ?_
   rotate_left
   ·intro w hSw
    have k0:=hSw.cell 0
    have k1:=hSw.cell 1
    simp only [List.getElem?_cons_zero,List.getElem?_cons_succ] at k0 k1
    go_simp
    try with_reducible rfl
   try simp only [Act.put,List.setIfInBounds_toArray,List.set_cons_zero,List.set_cons_succ]
   have HX0:=dq bd
   have HO0:Hid (OwnU W.drew B v2 (lk++Lib.itoa (jn:Int))):=dq (show OwnU W B v2 _ from HO2.out)
   have HW0:Hid (Below B W1 W.drew∧Lib.OthersKept 5 none W1 W.drew):=dq ⟨zff HB2.out.1,HB2.out.2.drew⟩
   clear bd HO2 HB2
   generalize W.drew=V0 at HX0 HO0 HW0 ⊢
   have hb0:B≤V0.heap.size:=Nat.le_trans HBS.out HW0.out.1.size
   have HX1:Hid (Lies (V0.alloc (.cells #[.int .u8 58] 5)) gx 111 [.int .i64 (jn:Int),.slice b u d]):=dq (HX0.out.below (below_alloc _ _) HX0.out.lt)
   obtain ⟨v3,V2,hr2,o2,b2,k2⟩:=zva 165 hb0 HO0.out hlj 58 (.int .u8 58) rfl
   refine wpAnyH_ready (rs:=[1]) (by kernel_rfl) (by simp) ?_
   refine AllReadyH.cons (o:=⟨some 21,.buildSlice 165 1 #[(0,.const (.int .u8 58))],165,"search.go:130",#[],none⟩) rfl (fun K hK=>?_) AllReadyH.nil
   go_simp
   refine hK.out _ _ HX1.out (fun hHeld=>?_)
   clear hK K hHeld
   try simp only [Act.put,List.setIfInBounds_toArray,List.set_cons_zero,List.set_cons_succ]
   refine wpAnyH_ready (rs:=[2]) (by kernel_rfl) (by simp) ?_
   refine AllReadyH.cons (o:=⟨some 22,.call {callee:=.builtin .append,args:=#[.tmp 20,.tmp 21],argTypes:=#[165,165]},165,"search.go:130",#[⟨0,.data⟩,⟨1,.data⟩],none⟩) rfl (fun K hK=>?_) AllReadyH.nil
   refine step_append_run _ rfl _ _ _ _ rfl _ _ rfl rfl _ _ hr2 ?_
   have HX2:Hid (Lies V2 gx 111 [.int .i64 (jn:Int),.slice b u d]):=dq (HX0.out.others (by decide) k2)
   have HO2:=dq o2
   have HW2:Hid (Below B W1 V2∧Lib.OthersKept 5 none W1 V2):=dq ⟨HW0.out.1.trans b2,HW0.out.2.trans k2⟩
   clear hr2 o2 b2 k2 HX1 HX0 HO0 HW0 hb0
   refine hK.out _ _ HX2.out (fun hHeld=>?_)
   clear hK K hHeld
   try simp only [Act.put,List.setIfInBounds_toArray,List.set_cons_zero,List.set_cons_succ]
   refine wpAnyH_ready (rs:=[5]) (by kernel_rfl) (by simp) ?_
   refine AllReadyH.cons (o:=⟨some 25,.call {callee:=.value (.func 136),args:=#[.tmp 22,.tmp 24],argTypes:=#[165,31]},165,"search.go:130",#[⟨2,.data⟩,⟨4,.data⟩,⟨2,.chain⟩],none⟩) rfl (fun K hK=>?_) AllReadyH.nil
   have Z:=HZA.out V2 v3 _ HO2.out HW2.out.1 hlc
   go_simp
   refine Z.mono ?_
   clear Z
   rintro e V3 ⟨v4,rfl,o4,b4,k4⟩
   have HX3:=dq (HX2.out.others (by decide) k4)
   have HO3:Hid (OwnU V3 B v4 (keyK cs l (k+1))):=dq (by rw [HK1.out,HFL.out];simpa [zfm,zi2] using o4)
   have HW3:Hid (Below B W1 V3∧Lib.OthersKept 5 none W1 V3):=dq ⟨HW2.out.1.trans b4,HW2.out.2.trans k4⟩
   clear o4 b4 k4 HX2 HO2 HW2
   go_wp2_with (fail)
   refine hK.out _ _ HX3.out (fun hHeld=>?_)
   clear hK K hHeld
   try simp only [Act.put,List.setIfInBounds_toArray,List.set_cons_zero,List.set_cons_succ]
   refine wpAnyH_take (i:=6) (oi:=⟨some 3,.assign (.tmp 25),165,"search.go:130",#[⟨5,.data⟩,⟨5,.chain⟩,⟨0,.phase⟩,⟨1,.phase⟩,⟨2,.phase⟩,⟨3,.phase⟩,⟨4,.phase⟩,⟨5,.phase⟩],none⟩) (v:=?_) rfl (by kernel_rfl) (by kernel_rfl) (by kernel_rfl) (fun _ _ _ h=>h) (Or.inl ⟨by rfl,?_⟩) HX3.out ?_
   rotate_left
   ·intro w hSw
    go_simp
    try with_reducible rfl
   try simp only [Act.put,List.setIfInBounds_toArray,List.set_cons_zero,List.set_cons_succ]
   refine wpAnyH_done (by kernel_rfl) ?_ _
   go_wp2
   go_roundw
   case rel=>exact ⟨k+1,by omega,by go_num,HO3,HW3⟩
   case measure=>simp [intOf];omega
  ·obtain rfl:k=m:=by omega
   rw [HKE.out] at HO
   have hconv:=zmZ HO.out
   have HF:Hid (Below w.heap.size w wr):=dq (by exact HW.out.trans (HB.out.1.mono (by rw [HBE.out];exact HW.out.size)))
   go_wp2
   go_ret
   exact ⟨rfl,HF.out⟩
end Go.Proofs.YtmnkjekjknhhjaaGreatDoor
namespace Go.Proofs.YtmnkjekjknhhjaaGreatDoor
open Go.ChangeShapes Go.WideShapes Go.ChangeAt Go.RowKit
structure Qb where
 ca:Option Addr
 cc:Nat
 la:Option Addr
 lc:Nat
 wa:Option Addr
 wc:Nat
 x:Pr
def Qb.cells (l:Qb):List Value:=[.slice l.ca l.x.c.length l.cc,.slice l.la l.x.l.length l.lc,.slice l.wa l.x.w.length l.wc]
def zgD (ls:List Qb):List Value:=ls.flatMap Qb.cells
def qrs (ls:List Qb):List Pr:=ls.map Qb.x
theorem zkX (ls:List Qb):(qrs ls).length=ls.length:=List.length_map ..
theorem zq2 (a b:List Qb):zgD (a++b)=zgD a++zgD b:=by simp [zgD]
theorem ziP:∀ (ls:List Qb) (k:Nat) (hk:k<ls.length) (i:Nat),i<3→(zgD ls)[k*3+i]? = (ls[k]).cells[i]?
 | [],_,hk,_,_=>by simp at hk
 | l::r,0,_,i,hi=>by
  have e:zgD (l::r)=l.cells++zgD r:=rfl
  rw [e,List.getElem?_append_left (by show 0*3+i<3;omega)]
  simp
 | l::r,k+1,hk,i,hi=>by
  have e:zgD (l::r)=l.cells++zgD r:=rfl
  rw [e,List.getElem?_append_right (by show 3≤_;omega)]
  have:=ziP r k (by simpa using hk) i hi
  have e2:(k+1)*3+i-l.cells.length=k*3+i:=by show (k+1)*3+i-3=_;omega
  rw [e2,this]
  simp
def RowQ (w:World) (a:Option Addr) (c n:Nat) (xs:List Value):Prop:=
 xs.length=n*3∧((a=none∧c=0∧n=0)∨∃ g sp,a=some ⟨g,0,none⟩∧c*3=xs.length+sp.length∧n≤c∧c≤9223372036854775807∧Lies w g 128 (xs++sp))
section
variable {w w':World} {a:Option Addr} {c n:Nat} {xs:List Value}
theorem RowQ.nil (w:World):RowQ w none 0 0 []:=⟨rfl,.inl ⟨rfl,rfl,rfl⟩⟩
theorem RowQ.kept {X:Nat→Prop} (h:RowQ w a c n xs) (k:Kept X w w') (hx:∀ g,a=some ⟨g,0,none⟩→¬X g):RowQ w' a c n xs:=by
 obtain ⟨h0,h⟩:=h
 rcases h with h | ⟨g,sp,e,h1,h2,h3,l⟩
 ·exact ⟨h0,.inl h⟩
 ·exact ⟨h0,.inr ⟨g,sp,e,h1,h2,h3,l.kept k (hx g e)⟩⟩
theorem RowQ.below (h:RowQ w a c n xs) (k:Below w.heap.size w w'):RowQ w' a c n xs:=h.kept (X:=fun _=>False) (Kept.of_below k) (fun _ _ h=>h)
theorem RowQ.lt (h:RowQ w a c n xs) {g:Nat} (e:a=some ⟨g,0,none⟩):g<w.heap.size:=by
 obtain ⟨_,h⟩:=h
 rcases h with ⟨h,_⟩ | ⟨g',sp,e',_,_,_,l⟩
 ·rw [h] at e;cases e
 ·rw [e'] at e;injection e with e;injection e with e;subst e;exact l.lt
theorem RowQ.le (h:RowQ w a c n xs):n≤c∧c≤9223372036854775807:=by
 obtain ⟨_,h⟩:=h
 rcases h with ⟨_,h1,h2⟩ | ⟨_,_,_,_,h1,h2,_⟩
 ·omega
 ·exact ⟨h1,h2⟩
theorem RowQ.form (h:RowQ w a c n xs):a=none∨∃ g,a=some ⟨g,0,none⟩:=by
 obtain ⟨_,h⟩:=h
 rcases h with ⟨e,_⟩ | ⟨g,_,e,_⟩
 ·exact .inl e
 ·exact .inr ⟨g,e⟩
theorem RowQ.cell (h:RowQ w a c n xs) {j:Nat} {u:Value} (hj:xs[j]? = some u):∃ g,a=some ⟨g,0,none⟩∧w.cell? ⟨g,j,none⟩=some u:=by
 obtain ⟨h0,h⟩:=h
 rcases h with ⟨_,_,h2⟩ | ⟨g,sp,e,_,_,_,l⟩
 ·have:xs=[]:=List.eq_nil_of_length_eq_zero (by omega)
  rw [this] at hj;simp at hj
 ·refine ⟨g,e,?_⟩
  rw [l.cell,List.getElem?_append_left (List.getElem?_eq_some_iff.1 hj).1]
  exact hj
theorem RowQ.own (h:RowQ w a c n xs):w.ownsRow 0 128 3 (.slice a n c) n xs:=by
 obtain ⟨h0,h⟩:=h
 refine ⟨h0,?_⟩
 rcases h with ⟨rfl,rfl,rfl⟩ | ⟨g,sp,rfl,h1,h2,h3,l⟩
 ·exact .inl ⟨rfl,rfl⟩
 ·refine .inr ⟨g,c,_,rfl,Nat.zero_le _,l,h2,by unfold maxLen;omega,?_,?_⟩
  ·simp;omega
  ·rw [←h0];simp
theorem zsg {v:Value} (h:w.ownsRow 0 128 3 v n xs):∃ a c,v=.slice a n c∧RowQ w a c n xs:=by
 obtain ⟨hl,h⟩:=h
 rcases h with ⟨rfl,rfl⟩ | ⟨g,cap,cur,rfl,_,hh,hn,hm,hs,ht⟩
 ·obtain rfl:xs=[]:=List.eq_nil_of_length_eq_zero (by omega)
  exact ⟨none,0,rfl,RowQ.nil w⟩
 ·unfold maxLen at hm
  refine ⟨_,_,rfl,hl,.inr ⟨g,cur.toList.drop (n*3),rfl,?_,hn,by omega,(zc8 hh).to ?_⟩⟩
  ·have h1:cur.toList.length=cap*3:=by simpa using hs
   rw [List.length_drop,h1,hl];omega
  ·rw [←ht,List.take_append_drop]
end
theorem Tryz.infoPairI:(Tryz.prog.info? 128).map (fun i=>(i.zero,i.size,i.bytes))=some (some (.agg #[.slice none 0 0,.slice none 0 0,.slice none 0 0]),3,72):=by kernel_rfl
def zoe (a:Option Addr) (n m:Nat) (xs ys:List Value) (w:World) (v:Value) (w':World):Prop:=
 ∃ a' c',v=.slice a' (n+m) c'∧RowQ w' a' c' (n+m) (xs++ys)∧Kept (fun g=>a=some ⟨g,0,none⟩) w w'∧∀ g,a'=some ⟨g,0,none⟩→a=some ⟨g,0,none⟩∨w.heap.size≤g
theorem zme (t ty:TypeId) (hu:Tryz.prog.underlying t=some (.slice 128))
  (a:Option Addr) (c n:Nat) (xs:List Value) (w:World) (R:RowQ w a c n xs) (ad:Addr) (m d:Nat) (ys:List Value) (hm:ys.length=m*3) (hc:∀ j u,ys[j]? = some u→w.cell? (ad.add j)=some u) (h1:∀ u∈ys,u.oneCell'=true) (hb:n+m≤1000000000000) :
  ∃ v w',(Builtin.append_ #[t,t] ty #[.slice a n c,.slice (some ad) m d]).run Tryz.prog w=.ok v w'∧zoe a n m xs ys w v w':=by
 obtain ⟨i,hi,hz,hsz,hby⟩:=info_parts Tryz.infoPairI
 have hform:=R.form
 have hx:=R.1
 obtain ⟨v',w',hr,h2,h3,_,h5⟩:=run_append_own_at (P:=Tryz.prog) w 0 t ty 128 i _ 3 72 hu hi hz hsz hby (by simp [Value.cells]) (by omega) _ n xs R.own
  ad m d ys hm hc h1 (by unfold maxLen;omega) (by omega) (Nat.zero_le _)
 obtain ⟨a',c',rfl,r'⟩:=zsg h2
 refine ⟨_,w',hr,a',c',rfl,r',?_,fun g e=>?_⟩
 ·refine ⟨h3.os,h3.tape,h3.output,h3.size,fun g hg hx=>h3.block g hg (fun e=>?_)⟩
  obtain ⟨x,rfl,hx'⟩:=(ownBlock_slice a _ _ g).1 e.symm
  rcases hform with h | ⟨g',h⟩
  ·cases h
  ·injection h with h;subst h;subst hx';exact hx rfl
 ·subst e
  rcases h5 with h5 | h5
  ·obtain ⟨x,rfl,hx⟩:=(ownBlock_slice a n c g).1 (by rw [←h5];rfl)
   rcases hform with h | ⟨g',h⟩
   ·cases h
   ·injection h with h;subst h;subst hx;exact .inl rfl
  ·have:g=w.heap.size:=by simpa [Value.ownBlock] using h5
   exact .inr (by omega)
structure QbAt (W:World) (p:Qb):Prop where
 c:Bag W p.ca p.cc p.x.c
 l:Its W p.la p.lc p.x.l
 w:Bag W p.wa p.wc p.x.w
structure Qbs (w:World) (a:Option Addr) (c:Nat) (ls:List Qb):Prop where
 row:RowQ w a c ls.length (zgD ls)
 each:∀ l∈ls,QbAt w l
def Qrs (w:World) (a:Option Addr) (c:Nat) (Q:List Pr):Prop:=∃ ls,qrs ls=Q∧Qbs w a c ls
def zsh (X:Nat→Prop) (w:World):Prop:=(∀ g cs,Lies w g 111 cs→¬X g)∧∀ g cs,Lies w g 3 cs→¬X g
section
variable {w w':World} {a:Option Addr} {c:Nat} {ls:List Qb} {Q:List Pr} {X:Nat→Prop}
theorem Bag.farQ {b:Option Addr} {d:Nat} {xs:List Int} (h:Bag w b d xs) (k:Kept X w w') (f:zsh X w):Bag w' b d xs:=h.kept k (fun g e=>by
 rcases h with ⟨h3,_⟩ | ⟨g',sp,h3,_,_,l⟩
 ·rw [h3] at e;cases e
 ·rw [h3] at e;injection e with e;injection e with e;subst e
  exact f.2 _ _ l)
theorem QbAt.far {l:Qb} (h:QbAt w l) (k:Kept X w w') (f:zsh X w):QbAt w' l:=⟨h.c.farQ k f,h.l.kept k f.1 f.2,h.w.farQ k f⟩
theorem QbAt.below {l:Qb} (h:QbAt w l) (k:Below w.heap.size w w'):QbAt w' l:=⟨h.c.below k,h.l.below k,h.w.below k⟩
theorem Qbs.nil (w:World):Qbs w none 0 []:=⟨RowQ.nil w,fun l h=>by simp at h⟩
theorem Qbs.below (h:Qbs w a c ls) (k:Below w.heap.size w w'):Qbs w' a c ls:=⟨h.row.below k,fun l hl=>(h.each l hl).below k⟩
theorem Qrs.below (h:Qrs w a c Q) (k:Below w.heap.size w w'):Qrs w' a c Q:=by
 obtain ⟨ls,e,h⟩:=h
 exact ⟨ls,e,h.below k⟩
theorem RowQ.lies {n:Nat} {xs:List Value} (h:RowQ w a c n xs) {g:Nat} (e:a=some ⟨g,0,none⟩):∃ cs,Lies w g 128 cs:=by
 rcases h.2 with ⟨h3,_⟩ | ⟨g',sp,h3,_,_,_,l⟩
 ·rw [h3] at e;cases e
 ·rw [h3] at e;injection e with e;injection e with e;subst e
  exact ⟨_,l⟩
theorem Qrs.far (h:Qrs w a c Q) (k:Kept X w w') (f:zsh X w) (hp:∀ g,a=some ⟨g,0,none⟩→¬X g):Qrs w' a c Q:=by
 obtain ⟨ls,e,h⟩:=h
 exact ⟨ls,e,h.row.kept k hp,fun l hl=>(h.each l hl).far k f⟩
theorem Qrs.le (h:Qrs w a c Q):Q.length≤c∧c≤9223372036854775807:=by
 obtain ⟨ls,rfl,h⟩:=h
 rw [zkX]
 exact h.row.le
theorem Qrs.lt (h:Qrs w a c Q) {g:Nat} (e:a=some ⟨g,0,none⟩):g<w.heap.size:=by
 obtain ⟨ls,_,h⟩:=h
 exact h.row.lt e
theorem Qrs.lies (h:Qrs w a c Q) {g:Nat} (e:a=some ⟨g,0,none⟩):∃ cs,Lies w g 128 cs:=by
 obtain ⟨ls,_,h⟩:=h
 exact h.row.lies e
theorem Qrs.at (h:Qrs w a c Q) {k:Nat} (hk:k<Q.length):∃ g l,a=some ⟨g,0,none⟩∧Qb.x l=prAt Q k∧(∀ i,i<3→w.cell? ⟨g,k*3+i,none⟩=l.cells[i]?)∧QbAt w l:=by
 obtain ⟨ls,rfl,h⟩:=h
 rw [zkX] at hk
 have e:(ls[k]).x=prAt (qrs ls) k:=by simp [prAt,qrs,List.getD,hk]
 obtain ⟨g,ha⟩:∃ g,a=some ⟨g,0,none⟩:=by
  have f0:=ziP ls k hk 0 (by omega)
  obtain ⟨g,e0,_⟩:=h.row.cell (j:=k*3+0) (u:=.slice (ls[k]).ca (ls[k]).x.c.length (ls[k]).cc) (by rw [f0];rfl)
  exact ⟨g,e0⟩
 refine ⟨g,ls[k],ha,e,fun i hi=>?_,h.each _ (List.getElem_mem hk)⟩
 have f:=ziP ls k hk i hi
 have hi':i<(ls[k]).cells.length:=hi
 rw [List.getElem?_eq_getElem hi'] at f
 obtain ⟨g',e',c'⟩:=h.row.cell f
 rw [ha] at e'
 injection e' with e';injection e' with e';subst e'
 rw [c',List.getElem?_eq_getElem hi']
theorem zsi {l:Qb} {n:Nat} {v:Value} (hs:qrs ls=Q) (h:Qbs w a c ls) (hl:QbAt w l) (hn:Q.length=n) (r:zoe a n 1 (zgD ls) l.cells w v w') :
  ∃ a' c',v=.slice a' (n+1) c'∧Qrs w' a' c' (Q++[l.x])∧Kept (fun g=>a=some ⟨g,0,none⟩) w w'∧∀ g,a'=some ⟨g,0,none⟩→a=some ⟨g,0,none⟩∨w.heap.size≤g:=by
 subst hn hs
 obtain ⟨a',c',rfl,R,k,f⟩:=r
 have fr:zsh (fun g=>a=some ⟨g,0,none⟩) w:=⟨fun g cs l e=>by
   obtain ⟨ds,l2⟩:=h.row.lies e
   exact l.other l2 (by decide) rfl,fun g cs l e=>by
   obtain ⟨ds,l2⟩:=h.row.lies e
   exact l.other l2 (by decide) rfl⟩
 refine ⟨a',c',rfl,⟨ls++[l],by simp [qrs],⟨?_,fun z hz=>?_⟩⟩,k,f⟩
 ·rw [zq2,List.length_append]
  have e:zgD [l]=l.cells:=by simp [zgD]
  rw [e]
  rw [zkX] at R
  exact R
 ·rcases List.mem_append.1 hz with hz | hz
  ·exact (h.each z hz).far k fr
  ·rw [List.mem_singleton] at hz;subst hz
   exact hl.far k fr
end
end Go.Proofs.YtmnkjekjknhhjaaGreatDoor
namespace Go.Proofs.YtmnkjekjknhhjaaGreatDoor
open Go.ChangeShapes Go.WideShapes Go.ChangeAt Go.RowKit Go.Maps
theorem Tryz.law9u:Keyed Tryz.prog 9:=string_keyed Tryz.underlying9
def MapU (w:World) (b:Nat) (T:List (List UInt8)):Prop:=
 ∃ D:DataW Unit,w.ownsMap Tryz.prog 9 unitElem b T.length D∧∀ t:List UInt8,Maps.has D (.string t)=decide (t∈T)
theorem MapU.new (w:World):MapU (w.alloc (.map #[] 0)) w.heap.size []:=⟨.map [],World.ownsMap_made w _ _ _,fun t=>by simp;rfl⟩
theorem MapU.kept {X:Nat→Prop} {w w':World} {b:Nat} {T:List (List UInt8)} (h:MapU w b T) (k:Kept X w w') (hx:¬X b):MapU w' b T:=by
 obtain ⟨D,o,hD⟩:=h
 have hlt:=o.lt
 obtain ⟨es,clock,hb,F,hs,hd⟩:=o
 exact ⟨D,⟨es,clock,(k.block b hlt hx).trans hb,F,hs,hd⟩,hD⟩
theorem MapU.lt {w:World} {b:Nat} {T:List (List UInt8)} (h:MapU w b T):b<w.heap.size:=by
 obtain ⟨D,o,hD⟩:=h
 exact o.lt
theorem MapU.cells {w:World} {b g:Nat} {T:List (List UInt8)} {t:TypeId} {cs:List Value} (h:MapU w b T) (l:Lies w g t cs):g≠b:=fun e=>by
 obtain ⟨D,⟨es,clock,hb,_⟩,_⟩:=h
 subst e
 unfold Lies at l
 rw [hb] at l
 cases l
theorem zsj {D:DataW Unit} (hm:IsMap D) {T:List (List UInt8)} (hD:∀ t:List UInt8,Maps.has D (.string t)=decide (t∈T)) (y:List UInt8) (d:DataW Unit) (t:List UInt8) :
  Maps.has (D.put (.string y) d) (.string t)=decide (t∈T++[y]):=by
 by_cases h:t=y
 ·subst h
  rw [has_put_same hm (show WideAt.IsKeyLit (.string t) from trivial)]
  simp
 ·rw [has_put_other (fun e=>h (by injection e)),hD t]
  simp [h]
theorem zq3 {w w':World} {gm:Nat} {T:List (List UInt8)} {D:DataW Unit} {y:List UInt8} {d:DataW Unit} (ho:w.ownsMap Tryz.prog 9 unitElem gm T.length D) (hD:∀ t:List UInt8,Maps.has D (.string t)=decide (t∈T))
  (h1:w'.ownsMap Tryz.prog 9 unitElem gm (T.length+1) (D.put (.string y) d)) (hg:w.grownBy w' (some gm)):MapU w' gm (T++[y])∧Kept (fun g=>g=gm) w w':=by
 refine ⟨⟨_,by rw [List.length_append];exact h1,zsj (ho.tidy Tryz.law9u).isMap hD y d⟩,hg.os,hg.tape,hg.output,hg.size,fun g hl hx=>hg.block g hl (fun e=>hx (by injection e))⟩
def zhw (z:Pr):List UInt8:=zo0 z.c z.l
structure PairR (z:Pr):Prop where
 c:zaa z.c=true
 l:zfl z.l
 few:z.l.length≤50000000
theorem zt5 {z:Pr} (h:PairR z):keyOf Tryz.prog 9 (.string ⟨(zhw z).toArray⟩)=some (.string (zhw z)):=by
 have h1:=zn9 h.c h.l
 have h2:=h.few
 have:=Go.WideMaps.keyOf_string_mk (P:=Tryz.prog) (s:=⟨(zhw z).toArray⟩) Tryz.underlying9 (by unfold maxLen;show (zo0 z.c z.l).toArray.size≤_;rw [List.size_toArray];omega)
 simpa using this
theorem zt6 {Q:List Pr} (hQ:∀ z∈Q,PairR z) {p:Pr} (hp:PairR p):zhw p∈Q.map zhw↔zkP Q p.c p.l=true:=by
 rw [zqF,List.mem_map]
 constructor
 ·rintro ⟨z,hz,e⟩
  have hz':=hQ z hz
  obtain ⟨e1,e2⟩:=ztU hz'.c hp.c hz'.l hp.l e
  exact ⟨z,hz,e1,e2⟩
 ·rintro ⟨z,hz,e1,e2⟩
  exact ⟨z,hz,by unfold zhw;rw [e1,e2]⟩
def zt7 (mp:Option Addr) (w0:World):Prop:=∀ V,MK mp w0 V→Lib.TabIs Tryz.prog V "internal/strconv.uint64pow10" .u64 Lib.pow10Tab
def SX (mp:Option Addr) (gs gm:Nat) (qa:Option Addr) (g:Nat):Prop:=mp=some ⟨g,0,none⟩∨g=gs∨g=gm∨qa=some ⟨g,0,none⟩
def zaE (mp:Option Addr) (bv:Value) (lv:Nat) (qa:Option Addr) (n qc gm:Nat):List Value:=[.pointer mp,bv,.int .i64 (lv:Nat),.slice qa n qc,.map (some gm)]
structure SqAt (w0:World) (mp:Option Addr) (M:Mr) (gs gm:Nat) (bv:Value) (lv:Nat) (qa:Option Addr) (qc:Nat) (P:List Pr) (T:List (List UInt8)) (W:World):Prop where
 meter:MrAt W 72 mp M
 old:∀ g,mp=some ⟨g,0,none⟩→g<w0.heap.size
 kept:MK mp w0 W
 map:MapU W gm T
 hm:w0.heap.size≤gm
 box:Lies W gs 125 (zaE mp bv lv qa P.length qc gm)
 hs:w0.heap.size≤gs
 prs:Qrs W qa qc P
 new:From w0.heap.size qa
section
variable {w0 W W':World} {mp:Option Addr} {M M':Mr} {gs gm lv:Nat} {bv:Value} {qa:Option Addr} {qc:Nat} {P:List Pr} {T:List (List UInt8)}
theorem SqAt.below (h:SqAt w0 mp M gs gm bv lv qa qc P T W) (b:Below W.heap.size W W'):SqAt w0 mp M gs gm bv lv qa qc P T W':=
 ⟨h.meter.below b,h.old,h.kept.then b,h.map.kept (X:=fun _=>False) (Kept.of_below b) (fun e=>e),h.hm,h.box.below b h.box.lt,h.hs,h.prs.below b,h.new⟩
theorem zdK (h:MrAt W 72 mp M):zsh (fun g=>mp=some ⟨g,0,none⟩) W:=by
 have hap:∀ (t:TypeId) (g:Nat) (cs:List Value),t≠72→Lies W g t cs→mp≠some ⟨g,0,none⟩:=fun t g cs ht l e=>by
  rcases h.form with h | ⟨b,h,cs',l'⟩
  ·rw [h] at e;cases e
  ·rw [h] at e;injection e with e;injection e with e;subst e
   exact l.other l' ht rfl
 exact ⟨fun g cs l=>hap _ g cs (by decide) l,fun g cs l=>hap _ g cs (by decide) l⟩
theorem SqAt.spent (h:SqAt w0 mp M gs gm bv lv qa qc P T W) (m:MrAt W' 72 mp M') (k:MK mp W W'):SqAt w0 mp M' gs gm bv lv qa qc P T W':=
 ⟨m,h.old,h.kept.and k,h.map.kept k (fun e=>by have:=h.old _ e;have:=h.hm;omega),h.hm,h.box.kept k (fun e=>by have:=h.old _ e;have:=h.hs;omega),h.hs,
  h.prs.far k (zdK h.meter) (fun g e e2=>by have:=h.old _ e2;have:=h.new g e;omega),h.new⟩
theorem SqAt.far (h:SqAt w0 mp M gs gm bv lv qa qc P T W):zsh (SX mp gs gm qa) W:=by
 have hm:=zdK h.meter
 refine ⟨fun g cs l e=>?_,fun g cs l e=>?_⟩
 ·rcases e with e | e | e | e
  ·exact hm.1 g cs l e
  ·subst e;exact l.other h.box (by decide) rfl
  ·exact h.map.cells l e
  ·obtain ⟨ds,l2⟩:=h.prs.lies e
   exact l.other l2 (by decide) rfl
 ·rcases e with e | e | e | e
  ·exact hm.2 g cs l e
  ·subst e;exact l.other h.box (by decide) rfl
  ·exact h.map.cells l e
  ·obtain ⟨ds,l2⟩:=h.prs.lies e
   exact l.other l2 (by decide) rfl
theorem SqAt.put (h:SqAt w0 mp M gs gm bv lv qa qc P T W) {y:List UInt8} (hT:MapU W' gm (T++[y])) (k:Kept (fun g=>g=gm) W W'):SqAt w0 mp M gs gm bv lv qa qc P (T++[y]) W':=by
 have hsz:=h.hm
 have hf:zsh (fun g=>g=gm) W:=⟨fun g cs l e=>h.map.cells l e,fun g cs l e=>h.map.cells l e⟩
 exact ⟨h.meter.kept k (fun g e e2=>by have:=h.old _ e;omega),h.old,h.kept.trans k (fun i hi e=>by omega),hT,h.hm,h.box.kept k (h.map.cells h.box),h.hs,
  h.prs.far k hf (fun g e e2=>by obtain ⟨cs,l2⟩:=h.prs.lies e;exact h.map.cells l2 e2),h.new⟩
theorem SqAt.push (h:SqAt w0 mp M gs gm bv lv qa qc P T W) {R:List Pr} {n:Nat} (hn:R.length=n) {qa':Option Addr} {qc':Nat} (r:Qrs W' qa' qc' R) (k:Kept (fun g=>qa=some ⟨g,0,none⟩) W W') (f:∀ g,qa'=some ⟨g,0,none⟩→qa=some ⟨g,0,none⟩∨W.heap.size≤g) :
  SqAt w0 mp M gs gm bv lv qa' qc' R T (W'.setCell ⟨gs,3,none⟩ (.slice qa' n qc'))∧Kept (SX mp gs gm qa) W (W'.setCell ⟨gs,3,none⟩ (.slice qa' n qc')):=by
 subst hn
 have hsz:=h.kept.size
 have hbox:Lies W' gs 125 (zaE mp bv lv qa P.length qc gm):=h.box.kept k (fun e=>by
  obtain ⟨cs,l2⟩:=h.prs.lies e
  exact h.box.other l2 (by decide) rfl)
 have hmap:MapU W' gm T:=h.map.kept k (fun e=>by
  obtain ⟨cs,l2⟩:=h.prs.lies e
  exact h.map.cells l2 rfl)
 have hmet:MrAt W' 72 mp M:=h.meter.kept k (fun g e e2=>by have:=h.old _ e;have:=h.new _ e2;omega)
 have hk:MK mp w0 W':=h.kept.trans k (fun i hi e=>by have:=h.new _ e;omega)
 have k2:Kept (fun g=>g=gs) W' (W'.setCell ⟨gs,3,none⟩ (.slice qa' R.length qc')):=(Kept.refl (fun g=>g=gs) W').setCell (p:=⟨gs,3,none⟩) (fun _=>rfl) _
 have hnew:From w0.heap.size qa':=fun g e=>by
  rcases f g e with e | e
  ·exact h.new g e
  ·omega
 have hq:∀ g,qa'=some ⟨g,0,none⟩→¬g=gs:=fun g e e2=>by
  obtain ⟨cs,l2⟩:=r.lies e
  subst e2
  exact hbox.other l2 (by decide) rfl
 refine ⟨⟨hmet.kept k2 (fun g e e2=>by have:=h.old _ e;have:=h.hs;omega),h.old,hk.trans k2 (fun i hi e=>by have:=h.hs;omega),hmap.kept k2 (fun e=>hmap.cells hbox e.symm),h.hm,?_,h.hs,
  r.far k2 ⟨fun g cs l e=>by subst e;exact l.other hbox (by decide) rfl,fun g cs l e=>by subst e;exact l.other hbox (by decide) rfl⟩ hq,hnew⟩,?_⟩
 ·have:=hbox.set 3 (.slice qa' R.length qc')
  simpa [zaE] using this
 ·exact (k.mono (Y:=SX mp gs gm qa) (fun g _ e=>.inr (.inr (.inr e)))).trans k2 (fun g hg e=>.inr (.inl e))
end
def zee (w0:World) (mp:Option Addr) (gs gm:Nat) (bv:Value) (lv k0:Nat) (qa:Option Addr) (W:World) (r:List Pr×Int×Mr) (e:Ending) (w':World):Prop:=
 e=.returned (.int .i64 r.2.1)∧∃ qa' qc',SqAt w0 mp r.2.2 gs gm bv lv qa' qc' (r.1.drop k0) (r.1.map zhw) w'∧Kept (SX mp gs gm qa) W w'∧∀ g,qa'=some ⟨g,0,none⟩→qa=some ⟨g,0,none⟩∨W.heap.size≤g
def zmk (p:Pr) (Q:List Pr) (M:Mr):List Pr×Int×Mr:=
 if zkP Q p.c p.l=true then (Q,0,M)
 else if (spendM M 1).1=true then (Q++[p],0,(spendM M 1).2)
 else (Q,7,(spendM M 1).2)
theorem zof {x:Lin} {b:List Lin} {q:Pr} {c:List Int} {Q:List Pr} {M:Mr}:zhv x b q c Q M =
  if (nextM M b q.l (zao c)).2.1=0 then zmk ⟨halfL c,(nextM M b q.l (zao c)).1,zaf q.w (zao c) q.n,q.n+1⟩ Q (nextM M b q.l (zao c)).2.2 else (Q,(nextM M b q.l (zao c)).2):=rfl
end Go.Proofs.YtmnkjekjknhhjaaGreatDoor
namespace Go.Proofs.YtmnkjekjknhhjaaGreatDoor
open Go.ChangeShapes Go.WideShapes Go.ChangeAt Go.RowKit Go.Maps
theorem Tryz.zeroUnit (w:World):(zeroValue 162).run Tryz.prog w=.ok (.agg #[]) w:=by kernel_rfl
set_option maxRecDepth 100000 in
set_option maxHeartbeats 4000000 in
theorem zuK {w0:World} {mp:Option Addr} {M:Mr} {gs gm lv k0:Nat} {bv:Value} {qa:Option Addr} {qc:Nat} {Q:List Pr} (W:World) (S:SqAt w0 mp M gs gm bv lv qa qc (Q.drop k0) (Q.map zhw) W) (htab:zt7 mp w0)
  (p:Qb) (hp:QbAt W p) (hP:PairR p.x) (hQ:∀ z∈Q,PairR z) (hlen:Q.length≤1000000000) (hk0:k0≤Q.length) :
  Calls Tryz.prog 85 #[.pointer (some ⟨gs,0,none⟩),.agg #[.slice p.ca p.x.c.length p.cc,.slice p.la p.x.l.length p.lc,.slice p.wa p.x.w.length p.wc]] W (zee w0 mp gs gm bv lv k0 qa W (zmk p.x Q M)):=by
 obtain ⟨ca,cc,la,lc,wa,wc,x⟩:=p
 simp only at hp hP ⊢
 have bb:=below_alloc W (.cells #[.slice ca x.c.length cc,.slice la x.l.length lc,.slice wa x.w.length wc] 128)
 have HS1:=dq (S.below bb)
 have HP1:=dq (hp.below bb)
 have HX1:=dq (Lies.new W 128 [.slice ca x.c.length cc,.slice la x.l.length lc,.slice wa x.w.length wc])
 have HK1:Hid (Kept (SX mp gs gm qa) W (W.alloc (.cells #[.slice ca x.c.length cc,.slice la x.l.length lc,.slice wa x.w.length wc] 128))):=dq (Kept.of_below bb)
 have HQX:Hid (¬qa=some ⟨W.heap.size,0,none⟩):=dq (fun e=>Nat.lt_irrefl _ (S.prs.lt e))
 have Z:=zuJ ca la cc lc x.c x.l (.slice wa x.w.length wc) _ HP1.out.c HP1.out.l hP.c hP.l hP.few (htab _ HS1.out.kept)
 have HMK:=dq (zt6 hQ hP)
 have HKY:=dq (zt5 hP)
 have HTX:Hid (zo0 x.c x.l=zhw x):=dq rfl
 have HAD:Hid (zmk x Q M=zmk x Q M):=dq rfl
 have HLN:=dq hlen
 have HWW:=dq S.kept.size
 have HK00:=dq hk0
 have HTL:Hid ((Q.map zhw).length=Q.length):=dq (List.length_map ..)
 obtain ⟨dn,hdn⟩:∃ dn,dn=(Q.drop k0).length:=⟨_,rfl⟩
 have HDN:Hid ((Q.drop k0).length=dn):=dq hdn.symm
 rw [HTX.out] at Z
 generalize hn1:x.c.length=n1 at HX1 HK1 Z ⊢
 generalize hn2:x.l.length=n2 at HX1 HK1 Z ⊢
 generalize hn3:x.w.length=n3 at HX1 HK1 Z ⊢
 rw [hn1,hn2,hn3] at HS1 HP1
 have HN1:=dq hn1
 have HN2:=dq hn2
 have HN3:=dq hn3
 have HZ:=dq Z
 clear Z bb S hp hP hQ htab hlen hk0 hdn hn1 hn2 hn3 HTX
 go_enter Tryz.func85,Tryz.ntmps85
 have e1:=HX1.out.cell 0
 have e2:=HX1.out.cell 1
 have e3:=HX1.out.cell 2
 simp only [List.getElem?_cons_zero,List.getElem?_cons_succ] at e1 e2 e3
 go_wp2_with (fail)
 generalize W.alloc (.cells #[.slice ca n1 cc,.slice la n2 lc,.slice wa n3 wc] 128)=W1 at HS1 HP1 HX1 HK1 HZ e1 e2 e3 ⊢
 generalize hgx:W.heap.size=gx at HX1 HQX e1 e2 e3 ⊢
 have HGX:=dq hgx
 clear hgx
 refine HZ.out.mono ?_
 clear HZ e1 e2 e3
 rintro e W2 ⟨rfl,b2⟩
 have HS2:=dq (HS1.out.below b2)
 have HP2:=dq (HP1.out.below b2)
 have HX2:=dq (HX1.out.below b2 HX1.out.lt)
 have HK2:Hid (Kept (SX mp gs gm qa) W W2):=dq (HK1.out.trans (Y:=fun _=>False) (Kept.of_below b2) (fun _ _ e=>e.elim))
 clear b2 HS1 HP1 HX1 HK1
 obtain ⟨D,hown,hD⟩:=HS2.out.map
 have HO:=dq hown
 have HDh:=dq (hD (zhw x))
 have HDA:=dq hD
 clear hown hD
 generalize htx:zhw x=tx at HKY HDh HMK ⊢
 have HTX:=dq htx
 clear htx
 have s4:=HS2.out.box.cell 4
 simp only [zaE,List.getElem?_cons_zero,List.getElem?_cons_succ] at s4
 by_cases hmt:zkP Q x.c x.l=true
 ·have HD1:Hid (Maps.has D (.string tx)=true):=dq (by rw [HDh.out];exact decide_eq_true (HMK.out.2 hmt))
  have HF:Hid (∀ V,Below W2.heap.size W2 V→zee w0 mp gs gm bv lv k0 qa W (zmk x Q M) (.returned (.int .i64 0)) V):=dq (fun V h=>by
   unfold zmk
   rw [if_pos hmt]
   exact ⟨rfl,qa,qc,HS2.out.below h,HK2.out.trans (Y:=fun _=>False) (Kept.of_below h) (fun _ _ e=>e.elim),fun g e=>.inl e⟩)
  go_wp2_with (at_lookup;refine wpList_lookup_own_unit _ rfl _ _ 122 rfl 9 162 Tryz.law9u Tryz.underlying122 (Tryz.zeroUnit _) gm _ D rfl HO.out _ (.string tx) rfl HKY.out ?_;rw [HD1.out])
  go_ret
  exact HF.out _ (below_alloc _ _)
 ·have HD1:Hid (Maps.has D (.string tx)=false):=dq (by rw [HDh.out];exact decide_eq_false (fun h=>hmt (HMK.out.1 h)))
  have HMT:=dq hmt
  clear hmt
  have bz:=below_alloc W2 (.cells #[] 162)
  have HS3:=dq (HS2.out.below bz)
  have HP3:=dq (HP2.out.below bz)
  have HX3:=dq (HX2.out.below bz HX2.out.lt)
  have HK3:Hid (Kept (SX mp gs gm qa) W (W2.alloc (.cells #[] 162))):=dq (HK2.out.alloc _)
  have s0:=HS3.out.box.cell 0
  simp only [zaE,List.getElem?_cons_zero] at s0
  go_wp2_with (at_lookup;refine wpList_lookup_own_unit _ rfl _ _ 122 rfl 9 162 Tryz.law9u Tryz.underlying122 (Tryz.zeroUnit _) gm _ D rfl HO.out _ (.string tx) rfl HKY.out ?_;rw [HD1.out])
  clear bz s4 HS2 HP2 HX2 HK2 HO
  clear s0
  generalize W2.alloc (.cells #[] 162)=W3 at HS3 HP3 HX3 HK3 ⊢
  have Z:=zpK mp M 1 W3 HS3.out.meter
  unfold zch at Z
  obtain ⟨sp,hsp⟩:∃ sp,sp=spendM M 1:=⟨_,rfl⟩
  have HSP:=dq hsp
  rw [←hsp] at Z
  have HZ:=dq Z
  clear Z hsp HD1
  obtain ⟨sv,M4⟩:=sp
  refine HZ.out.mono ?_
  clear HZ
  rintro e W4 ⟨rfl,m4,k4⟩
  have HM4:=dq m4
  have HS4:=dq (HS3.out.spent m4 k4)
  have HP4:=dq (HP3.out.far k4 (zdK HS3.out.meter))
  have HX4:=dq (HX3.out.kept k4 (fun e=>by have:=HS3.out.old _ e;have:=HWW.out;have:=HGX.out;omega))
  have HK4:Hid (Kept (SX mp gs gm qa) W W4):=dq (HK3.out.trans k4 (fun i hi e=>.inl e))
  clear HP3 HX3 HK3
  cases sv with
  | false=>
   have HF:Hid (zee w0 mp gs gm bv lv k0 qa W (zmk x Q M) (.returned (.int .i64 7)) W4):=dq (by
    unfold zmk
    rw [if_neg HMT.out,←HSP.out,if_neg (by simp)]
    exact ⟨rfl,qa,qc,HS4.out,HK4.out,fun g e=>.inl e⟩)
   go_wp2
   go_ret
   exact HF.out
  | true=>
   have HAD:Hid (zmk x Q M=(Q++[x],0,M4)):=dq (by
    unfold zmk
    rw [if_neg HMT.out,←HSP.out,if_pos rfl])
   have s4:=HS4.out.box.cell 4
   simp only [zaE,List.getElem?_cons_zero,List.getElem?_cons_succ] at s4
   obtain ⟨D2,hown2,hD2⟩:=HS4.out.map
   have HO2:=dq hown2
   have HDA2:=dq hD2
   have hml:(Q.map zhw).length<maxLen:=by rw [HTL.out];have:=HLN.out;unfold maxLen;omega
   clear hown2 hD2
   go_wp2_with (at_mapUpdate;refine wpList_mapUpdate_own _ rfl _ _ _ 122 rfl 9 162 Tryz.law9u Tryz.underlying122 unitElem gm (Q.map zhw).length D2 rfl HO2.out hml _ _ (.string tx) rfl rfl HKY.out (.agg []) [] unitElem_mk ?_)
   intro W6 hown6 hg6
   obtain ⟨hT6,hk6⟩:=zq3 HO2.out HDA2.out (by rw [HTL.out];exact hown6) hg6
   have hfar:zsh (fun g=>g=gm) W4:=⟨fun g cs l e=>HS4.out.map.cells l e,fun g cs l e=>HS4.out.map.cells l e⟩
   have HS7:=dq (HS4.out.put hT6 hk6)
   have HP7:=dq (HP4.out.far hk6 hfar)
   have HX7:=dq (HX4.out.kept hk6 (HS4.out.map.cells HX4.out))
   have HK7:Hid (Kept (SX mp gs gm qa) W W6):=dq (HK4.out.trans hk6 (fun i hi e=>.inr (.inr (.inl e))))
   clear s4 HO2 HDA2 hown6 hg6 hT6 hk6 hfar HS4 HP4 HX4 HK4
   go_upto_region 8 with (fail)
   have bd:Lies W6.drew gx 128 [.slice ca n1 cc,.slice la n2 lc,.slice wa n3 wc]:=HX7.out
   clear HX7
   refine wp_region_held_drew (S:=fun V=>Lies V gx 128 [.slice ca n1 cc,.slice la n2 lc,.slice wa n3 wc]) (by kernel_rfl) bd (fun hHeld=>?_)
   clear hHeld
   refine wpAnyH_take (i:=0) (oi:=⟨some 32,.move (.tmp 0),160,"search.go:67",#[],none⟩) (v:=?_) rfl (by kernel_rfl) (by kernel_rfl) (by kernel_rfl) (fun _ _ _ h=>h) (Or.inl ⟨by rfl,?_⟩) bd ?_
   rotate_left
   ·intro w hSw
    go_simp
    try with_reducible rfl
   try simp only [Act.put,List.setIfInBounds_toArray,List.set_cons_zero,List.set_cons_succ]
   refine wpAnyH_take (i:=1) (oi:=⟨some 33,.move (.tmp 0),160,"search.go:67",#[],none⟩) (v:=?_) rfl (by kernel_rfl) (by kernel_rfl) (by kernel_rfl) (fun _ _ _ h=>h) (Or.inl ⟨by rfl,?_⟩) bd ?_
   rotate_left
   ·intro w hSw
    go_simp
    try with_reducible rfl
   try simp only [Act.put,List.setIfInBounds_toArray,List.set_cons_zero,List.set_cons_succ]
   refine wpAnyH_take (i:=2) (oi:=⟨some 34,.nilCheck (.tmp 33),0,"search.go:67",#[⟨1,.data⟩],none⟩) (v:=?_) rfl (by kernel_rfl) (by kernel_rfl) (by kernel_rfl) (fun _ _ _ h=>h) (Or.inl ⟨by rfl,?_⟩) bd ?_
   rotate_left
   ·intro w hSw
    go_simp
    try with_reducible rfl
   try simp only [Act.put,List.setIfInBounds_toArray,List.set_cons_zero,List.set_cons_succ]
   refine wpAnyH_take (i:=3) (oi:=⟨some 35,.fieldAddr 125 (.tmp 34) 3,0,"search.go:67",#[⟨2,.data⟩],none⟩) (v:=?_) rfl (by kernel_rfl) (by kernel_rfl) (by kernel_rfl) (fun _ _ _ h=>h) (Or.inl ⟨by rfl,?_⟩) bd ?_
   rotate_left
   ·intro w hSw
    go_simp
    try with_reducible rfl
   try simp only [Act.put,List.setIfInBounds_toArray,List.set_cons_zero,List.set_cons_succ]
   refine wpAnyH_take (i:=5) (oi:=⟨some 37,.load 128 (.tmp 3),128,"search.go:67",#[],none⟩) (v:=?_) rfl (by kernel_rfl) (by kernel_rfl) (by kernel_rfl) (fun _ _ _ h=>h) (Or.inl ⟨by rfl,?_⟩) bd ?_
   rotate_left
   ·intro w hSw
    have y0:=hSw.cell 0
    have y1:=hSw.cell 1
    have y2:=hSw.cell 2
    simp only [List.getElem?_cons_zero,List.getElem?_cons_succ] at y0 y1 y2
    go_simp
    try with_reducible rfl
   try simp only [Act.put,List.setIfInBounds_toArray,List.set_cons_zero,List.set_cons_succ]
   have bd0:Below W6.heap.size W6 W6.drew:=⟨rfl,rfl,rfl,Nat.le_refl _,fun _ _=>rfl⟩
   have HX0:=dq bd
   have HS0:=dq (HS7.out.below bd0)
   have HP0:=dq (HP7.out.below bd0)
   have HK0:Hid (Kept (SX mp gs gm qa) W W6.drew):=dq HK7.out.drew
   clear bd bd0 HS7 HP7 HK7
   generalize W6.drew=V0 at HX0 HS0 HP0 HK0 ⊢
   have s3:=HS0.out.box.cell 3
   simp only [zaE,List.getElem?_cons_zero,List.getElem?_cons_succ] at s3
   rw [HDN.out] at s3
   have bz:=below_alloc V0 (.cells #[.slice ca n1 cc,.slice la n2 lc,.slice wa n3 wc] 128)
   have HX1:=dq (HX0.out.below bz HX0.out.lt)
   have HS1:=dq (HS0.out.below bz)
   have HP1:=dq (HP0.out.below bz)
   have HL1:=dq (Lies.new V0 128 [.slice ca n1 cc,.slice la n2 lc,.slice wa n3 wc])
   have s31:=HS1.out.box.cell 3
   simp only [zaE,List.getElem?_cons_zero,List.getElem?_cons_succ] at s31
   rw [HDN.out] at s31
   have HFIN:Hid (∃ a2 c2 V2,(Builtin.append_ #[123,123] 123 #[.slice qa dn qc,.slice (some ⟨V0.heap.size,0,none⟩) 1 1]).run Tryz.prog (V0.alloc (.cells #[.slice ca n1 cc,.slice la n2 lc,.slice wa n3 wc] 128))=.ok (.slice a2 (dn+1) c2) V2∧
     Lies V2 gx 128 [.slice ca n1 cc,.slice la n2 lc,.slice wa n3 wc]∧Lies (V2.setCell ⟨gs,3,none⟩ (.slice a2 (dn+1) c2)) gx 128 [.slice ca n1 cc,.slice la n2 lc,.slice wa n3 wc]∧V2.cell? ⟨gs,3,none⟩=some (.slice qa dn qc)∧V2.frozen? ⟨gs,3,none⟩=false∧dn+1≤c2∧c2≤9223372036854775807∧
     zee w0 mp gs gm bv lv k0 qa W (zmk x Q M) (.returned (.int .i64 0)) (V2.setCell ⟨gs,3,none⟩ (.slice a2 (dn+1) c2))):=dq (by
    obtain ⟨ls,hls,hQ⟩:=HS1.out.prs
    have hdl:ls.length=dn:=by rw [←zkX ls,hls,HDN.out]
    have hrow:=hQ.row
    rw [hdl] at hrow
    obtain ⟨v2,V2,hr,A⟩:=zme 123 123 Tryz.underlying123 qa qc dn (zgD ls) _ hrow ⟨V0.heap.size,0,none⟩ 1 1 (Qb.cells ⟨ca,cc,la,lc,wa,wc,x⟩) rfl (fun j u hj=>by
     rw [Addr.add_lit]
     have h:=HL1.out.cell (0+j)
     rw [h]
     rw [←hj]
     show _=([.slice ca x.c.length cc,.slice la x.l.length lc,.slice wa x.w.length wc]:List Value)[j]?
     rw [HN1.out,HN2.out,HN3.out,Nat.zero_add]) (fun u hu=>by
     simp only [Qb.cells,List.mem_cons,List.not_mem_nil,or_false] at hu
     rcases hu with rfl | rfl | rfl<;>rfl) (by have:=HLN.out;have:=HDN.out;rw [List.length_drop] at this;omega)
    obtain ⟨a2,c2,rfl,r2,k2,f2⟩:=zsi (l:=⟨ca,cc,la,lc,wa,wc,x⟩) (n:=dn) hls hQ HP1.out (by rw [HDN.out]) A
    have hgx:¬qa=some ⟨gx,0,none⟩:=HQX.out
    have hx2:Lies V2 gx 128 [.slice ca n1 cc,.slice la n2 lc,.slice wa n3 wc]:=HX1.out.kept k2 hgx
    have hgs:¬qa=some ⟨gs,0,none⟩:=fun e=>by
     obtain ⟨cs,l2⟩:=HS1.out.prs.lies e
     exact HS1.out.box.other l2 (by decide) rfl
    have hs2:=HS1.out.box.kept k2 hgs
    have hc3:=hs2.cell 3
    simp only [zaE,List.getElem?_cons_zero,List.getElem?_cons_succ] at hc3
    rw [HDN.out] at hc3
    have hRn:(Q.drop k0++[x]).length=dn+1:=by rw [List.length_append,HDN.out];rfl
    obtain ⟨q1,q2⟩:=HS1.out.push hRn r2 k2 (fun g e=>f2 g e)
    have hle:=r2.le
    rw [hRn] at hle
    have hgxs:gx≠gs:=fun e=>by subst e;exact hx2.other hs2 (by decide) rfl
    refine ⟨a2,c2,V2,hr,hx2,hx2.far hgxs _,hc3,hs2.frozen 3,hle.1,hle.2,?_⟩
    have hk:Kept (SX mp gs gm qa) W (V0.alloc (.cells #[.slice ca n1 cc,.slice la n2 lc,.slice wa n3 wc] 128)):=HK0.out.alloc _
    rw [HAD.out]
    refine ⟨rfl,a2,c2,?_,hk.trans q2 (fun i hi e=>e),fun g e=>?_⟩
    ·have e1:[x].map zhw=[tx]:=by rw [List.map_cons,List.map_nil,HTX.out]
     rw [List.drop_append_of_le_length HK00.out,List.map_append,e1]
     exact q1
    ·rcases f2 g e with e | e
     ·exact .inl e
     ·have:=hk.size
      exact .inr (by omega))
   obtain ⟨a2,c2,V2,hr2,hx2,hx3,hc3,hfz,hl1,hl2,hF⟩:=HFIN.out
   have HX2:=dq hx2
   have HX3:=dq hx3
   have HF:=dq hF
   clear HFIN hx2 hx3 hF HS0 HP0 HK0 HS1 HP1 HL1 bz
   refine wpAnyH_ready (rs:=[4,6]) (by kernel_rfl) (by simp) ?_
   refine AllReadyH.cons (o:=⟨some 36,.load 123 (.tmp 35),123,"search.go:67",#[⟨3,.data⟩],none⟩) rfl (fun K hK=>?_) ?_
   ·go_simp
    refine hK.out _ _ HX0.out (fun hHeld=>?_)
    clear hK K hHeld
    try simp only [Act.put,List.setIfInBounds_toArray,List.set_cons_zero,List.set_cons_succ]
    refine wpAnyH_ready (rs:=[6]) (by kernel_rfl) (by simp) ?_
    refine AllReadyH.cons (o:=⟨some 38,.buildSlice 123 1 #[(0,.tmp 37)],123,"search.go:67",#[⟨5,.data⟩],none⟩) rfl (fun K hK=>?_) AllReadyH.nil
    go_simp
    refine hK.out _ _ HX1.out (fun hHeld=>?_)
    clear hK K hHeld
    try simp only [Act.put,List.setIfInBounds_toArray,List.set_cons_zero,List.set_cons_succ]
    refine wpAnyH_ready (rs:=[7]) (by kernel_rfl) (by simp) ?_
    refine AllReadyH.cons (o:=⟨some 39,.call {callee:=.builtin .append,args:=#[.tmp 36,.tmp 38],argTypes:=#[123,123]},123,"search.go:67",#[⟨4,.data⟩,⟨6,.data⟩],none⟩) rfl (fun K hK=>?_) AllReadyH.nil
    refine step_append_run _ rfl _ _ _ _ rfl _ _ rfl rfl _ _ hr2 ?_
    refine hK.out _ _ HX2.out (fun hHeld=>?_)
    clear hK K hHeld
    try simp only [Act.put,List.setIfInBounds_toArray,List.set_cons_zero,List.set_cons_succ]
    refine wpAnyH_take (i:=8) (oi:=⟨some 40,.nilCheck (.tmp 32),0,"search.go:67",#[⟨0,.data⟩,⟨0,.phase⟩,⟨1,.phase⟩,⟨2,.phase⟩,⟨3,.phase⟩,⟨4,.phase⟩,⟨5,.phase⟩,⟨6,.phase⟩,⟨7,.phase⟩],none⟩) (v:=?_) rfl (by kernel_rfl) (by kernel_rfl) (by kernel_rfl) (fun _ _ _ h=>h) (Or.inl ⟨by rfl,?_⟩) HX2.out ?_
    rotate_left
    ·intro w hSw
     go_simp
     try with_reducible rfl
    try simp only [Act.put,List.setIfInBounds_toArray,List.set_cons_zero,List.set_cons_succ]
    refine wpAnyH_take (i:=9) (oi:=⟨some 41,.fieldAddr 125 (.tmp 40) 3,0,"search.go:67",#[⟨8,.data⟩,⟨0,.phase⟩,⟨1,.phase⟩,⟨2,.phase⟩,⟨3,.phase⟩,⟨4,.phase⟩,⟨5,.phase⟩,⟨6,.phase⟩,⟨7,.phase⟩],none⟩) (v:=?_) rfl (by kernel_rfl) (by kernel_rfl) (by kernel_rfl) (fun _ _ _ h=>h) (Or.inl ⟨by rfl,?_⟩) HX2.out ?_
    rotate_left
    ·intro w hSw
     go_simp
     try with_reducible rfl
    try simp only [Act.put,List.setIfInBounds_toArray,List.set_cons_zero,List.set_cons_succ]
    refine wpAnyH_ready (rs:=[10]) (by kernel_rfl) (by simp) ?_
    refine AllReadyH.cons (o:=⟨none,.store 123 (.tmp 41) (.tmp 39),0,"search.go:67",#[⟨9,.data⟩,⟨7,.data⟩,⟨7,.chain⟩,⟨0,.phase⟩,⟨1,.phase⟩,⟨2,.phase⟩,⟨3,.phase⟩,⟨4,.phase⟩,⟨5,.phase⟩,⟨6,.phase⟩,⟨7,.phase⟩],none⟩) rfl (fun K hK=>?_) AllReadyH.nil
    go_simp
    refine hK.out _ _ HX3.out (fun hHeld=>?_)
    clear hK K hHeld
    try simp only [Act.put,List.setIfInBounds_toArray,List.set_cons_zero,List.set_cons_succ]
    refine wpAnyH_done (by kernel_rfl) ?_ _
    go_wp2
    go_ret
    exact HF.out
   refine AllReadyH.cons (o:=⟨some 38,.buildSlice 123 1 #[(0,.tmp 37)],123,"search.go:67",#[⟨5,.data⟩],none⟩) rfl (fun K hK=>?_) AllReadyH.nil
   go_simp
   refine hK.out _ _ HX1.out (fun hHeld=>?_)
   clear hK K hHeld
   try simp only [Act.put,List.setIfInBounds_toArray,List.set_cons_zero,List.set_cons_succ]
   refine wpAnyH_ready (rs:=[4]) (by kernel_rfl) (by simp) ?_
   refine AllReadyH.cons (o:=⟨some 36,.load 123 (.tmp 35),123,"search.go:67",#[⟨3,.data⟩],none⟩) rfl (fun K hK=>?_) AllReadyH.nil
   go_simp
   refine hK.out _ _ HX1.out (fun hHeld=>?_)
   clear hK K hHeld
   try simp only [Act.put,List.setIfInBounds_toArray,List.set_cons_zero,List.set_cons_succ]
   refine wpAnyH_ready (rs:=[7]) (by kernel_rfl) (by simp) ?_
   refine AllReadyH.cons (o:=⟨some 39,.call {callee:=.builtin .append,args:=#[.tmp 36,.tmp 38],argTypes:=#[123,123]},123,"search.go:67",#[⟨4,.data⟩,⟨6,.data⟩],none⟩) rfl (fun K hK=>?_) AllReadyH.nil
   refine step_append_run _ rfl _ _ _ _ rfl _ _ rfl rfl _ _ hr2 ?_
   refine hK.out _ _ HX2.out (fun hHeld=>?_)
   clear hK K hHeld
   try simp only [Act.put,List.setIfInBounds_toArray,List.set_cons_zero,List.set_cons_succ]
   refine wpAnyH_take (i:=8) (oi:=⟨some 40,.nilCheck (.tmp 32),0,"search.go:67",#[⟨0,.data⟩,⟨0,.phase⟩,⟨1,.phase⟩,⟨2,.phase⟩,⟨3,.phase⟩,⟨4,.phase⟩,⟨5,.phase⟩,⟨6,.phase⟩,⟨7,.phase⟩],none⟩) (v:=?_) rfl (by kernel_rfl) (by kernel_rfl) (by kernel_rfl) (fun _ _ _ h=>h) (Or.inl ⟨by rfl,?_⟩) HX2.out ?_
   rotate_left
   ·intro w hSw
    go_simp
    try with_reducible rfl
   try simp only [Act.put,List.setIfInBounds_toArray,List.set_cons_zero,List.set_cons_succ]
   refine wpAnyH_take (i:=9) (oi:=⟨some 41,.fieldAddr 125 (.tmp 40) 3,0,"search.go:67",#[⟨8,.data⟩,⟨0,.phase⟩,⟨1,.phase⟩,⟨2,.phase⟩,⟨3,.phase⟩,⟨4,.phase⟩,⟨5,.phase⟩,⟨6,.phase⟩,⟨7,.phase⟩],none⟩) (v:=?_) rfl (by kernel_rfl) (by kernel_rfl) (by kernel_rfl) (fun _ _ _ h=>h) (Or.inl ⟨by rfl,?_⟩) HX2.out ?_
   rotate_left
   ·intro w hSw
    go_simp
    try with_reducible rfl
   try simp only [Act.put,List.setIfInBounds_toArray,List.set_cons_zero,List.set_cons_succ]
   refine wpAnyH_ready (rs:=[10]) (by kernel_rfl) (by simp) ?_
   refine AllReadyH.cons (o:=⟨none,.store 123 (.tmp 41) (.tmp 39),0,"search.go:67",#[⟨9,.data⟩,⟨7,.data⟩,⟨7,.chain⟩,⟨0,.phase⟩,⟨1,.phase⟩,⟨2,.phase⟩,⟨3,.phase⟩,⟨4,.phase⟩,⟨5,.phase⟩,⟨6,.phase⟩,⟨7,.phase⟩],none⟩) rfl (fun K hK=>?_) AllReadyH.nil
   go_simp
   refine hK.out _ _ HX3.out (fun hHeld=>?_)
   clear hK K hHeld
   try simp only [Act.put,List.setIfInBounds_toArray,List.set_cons_zero,List.set_cons_succ]
   refine wpAnyH_done (by kernel_rfl) ?_ _
   go_wp2
   go_ret
   exact HF.out
end Go.Proofs.YtmnkjekjknhhjaaGreatDoor
namespace Go.Proofs.YtmnkjekjknhhjaaGreatDoor
open Go.ChangeShapes Go.WideShapes Go.ChangeAt Go.RowKit
def zt2 (mp:Option Addr) (r:Bool×Int×Mr) (w:World) (e:Ending) (w':World):Prop:=
 e=.returned (.tuple #[.bool r.1,.int .i64 r.2.1])∧MrAt w' 72 mp r.2.2∧MK mp w w'
def zqW (mp:Option Addr) (M:Mr) (s:List Lin) (xs:List Int) (w:World) (e:Ending) (w':World):Prop:=
 (zaa xs=false∧zt2 mp (false,1,M) w e w')∨∃ D,D≤62∧zaa xs=true∧ztL xs D∧zt2 mp (zua M s xs D) w e w'
theorem mtP:MT 72:=by unfold MT;decide
theorem zm0 {w w':World} {mp:Option Addr} {M:Mr} (h:MrAt w 72 mp M) (k:MK mp w w') {a:Option Addr} {c:Nat} {xs:List Int} (r:Bag w a c xs):Bag w' a c xs:=
 r.kept k (fun _ e=>zaV h (by decide) r e)
theorem zqX {xs:List Int} (h:zaa xs=true) (d:Int):0≤letterN xs d∧letterN xs d≤18446744073709551615:=by
 unfold letterN
 split
 ·have h1:=zbw (zaJ xs d.toNat)
  have h2:(zaJ xs d.toNat).length≤12:=by rw [zex];exact (zac.1 h).1
  have h3:(2:Nat) ^ (zaJ xs d.toNat).length≤2 ^ 12:=Nat.pow_le_pow_right (by omega) h2
  have e:(2:Int) ^ (zaJ xs d.toNat).length=((2 ^ (zaJ xs d.toNat).length:Nat):Int):=by simp
  omega
 ·omega
set_option maxRecDepth 100000 in
set_option maxHeartbeats 4000000 in
theorem zuW (mp sa wa:Option Addr) (sc wc:Nat) (M:Mr) (s:List Lin) (xs:List Int) (w:World) (HMM0:MrAt w 72 mp M) (R0:Lins w sa sc s) (R:Bag w wa wc xs) (hs:Thin s) :
  Calls Tryz.prog 15 #[.pointer mp,.slice sa s.length sc,.slice wa xs.length wc] w (zqW mp M s xs w):=by
 have hle:=R.le
 have hle0:=R0.le
 have HT:=dq hs
 have HR:=dq R
 have HRS:=dq R0
 have HMM:=dq HMM0
 have Z0:=zfJ sa sc s w R0
 rw [zan.2 HT.out.rise] at Z0
 have Z1:=za4 wa wc xs
 have ZD:=zsb wa wc xs
 generalize hn:xs.length=n at hle Z1 ZD ⊢
 generalize hm:s.length=m at hle0 Z0 ⊢
 have HN:=dq hn
 have HM:=dq hm
 have HZ0:=dq Z0
 have HZ1:=dq Z1
 have HZD:=dq ZD
 clear R0 R HMM0 hs hn hm Z0 Z1 ZD
 go_enter Tryz.func15,Tryz.ntmps15
 go_wp2_with (fail)
 refine HZ0.out.mono ?_
 clear HZ0
 rintro e w1 ⟨rfl,b1⟩
 have HB1:=dq b1
 have HZ2:=dq (HZ1.out w1 (HR.out.below b1))
 clear b1 HZ1
 generalize hv:zaa xs=v at HZ2
 have HV:=dq hv
 clear hv
 go_wp2_with (fail)
 refine HZ2.out.mono ?_
 clear HZ2
 rintro e _ ⟨rfl,rfl⟩
 cases v with
 | false=>
  have HF:Hid (zqW mp M s xs w (.returned (.tuple #[.bool false,.int .i64 1])) w1):=dq (.inl ⟨HV.out,rfl,HMM.out.below HB1.out,Kept.of_below HB1.out⟩)
  go_wp2
  exact bodyPost_ret (v:=.tuple #[.bool false,.int .i64 1]) (by simp [results,Tryz.results15,go_sem]) rfl HF.out
 | true=>
  have Z:=zqs sa sc s w1 (HRS.out.below HB1.out) (by have:=HT.out.few;omega)
  rw [HM.out] at Z
  have HZ:=dq Z
  clear Z
  go_wp2_with (fail)
  refine HZ.out.mono ?_
  clear HZ
  rintro e w2 ⟨a2,c2,rfl,r2,f2,b2⟩
  have HB2:=dq (HB1.out.trans (b2.mono HB1.out.size))
  have HI2:=dq r2
  have hle2:=r2.le
  have HZD2:=dq (HZD.out w2 (HR.out.below HB2.out) HV.out)
  obtain ⟨hdp,hd62⟩:=zoS HV.out
  generalize Lib.bitLen (orN xs)=D at HZD2 hdp hd62
  have HDP:=dq hdp
  have HGO:Hid (zua M s xs D=if (zav s xs D 0 (startL s) M).2.1=0 then (finalL (zav s xs D 0 (startL s) M).1,(zav s xs D 0 (startL s) M).2) else (false,(zav s xs D 0 (startL s) M).2)):=dq rfl
  have HST:=dq (zdW HT.out)
  have HM2:=dq (HMM.out.below HB2.out)
  have HK2:Hid (MK mp w w2):=dq (Kept.of_below HB2.out)
  obtain ⟨RR,hRR⟩:∃ RR,RR=zav s xs D 0 (startL s) M:=⟨_,rfl⟩
  rw [←hRR] at HGO
  have HRR:Hid (RR=zav s xs (D-0) 0 (startL s) M):=dq hRR
  clear hRR hdp
  generalize startL s=l0 at HI2 HST hle2 HRR ⊢
  generalize hq:l0.length=q0 at hle2 ⊢
  have HQ0:=dq hq
  clear hq r2 f2 b2 HB2 HB1 HZD
  go_wp2_with (fail)
  refine HZD2.out.mono ?_
  clear HZD2
  rintro e _ ⟨rfl,rfl⟩
  go_wp2
  go_loopw [8,24] (fun lv dv wr=>∃ (d q:Nat) (la:Option Addr) (lc:Nat) (l:List It) (Mi:Mr),d≤D∧lv=.slice la q lc∧dv=.int .i64 d∧Hid (l.length=q)∧Hid (Its wr la lc l)∧Hid (MrAt wr 72 mp Mi)∧Hid (MK mp w wr)∧Hid (zgt s l)∧Hid (RR=zav s xs (D-d) d l Mi)) (fun _ dv _=>D-(intOf dv).toNat)
  case atStart=>exact ⟨0,q0,a2,c2,l0,M,Nat.zero_le _,rfl,rfl,HQ0,HI2,HM2,HK2,HST,HRR⟩
  case round=>
   clear HQ0 HI2 HM2 HK2 HST HRR hle2
   obtain ⟨d,q,la,lc,l,Mi,hd,rfl,rfl,HQ,HI,HMi,HK,HST,HRR⟩:=hrel
   by_cases hdd:d<D
   ·have i3:(0:Int)≤(d:Int):=by omega
    have i4:(d:Int)<(D:Int):=by omega
    have hle3:=HI.out.le
    rw [HQ.out] at hle3
    have HWB:=dq (zm0 HMM.out HK.out HR.out)
    have Z:=zkO wa wc xs (d:Int) wr HWB.out (by omega) (by omega)
    rw [HN.out] at Z
    have HZ:=dq Z
    have HLS:=dq (Lins.mk HMM.out mtP HK.out HRS.out)
    have HCO:=dq (ze7 HT.out HST.out.1 HST.out.2)
    have HNO:=dq (fun h=>ziA (s:=s) (w:=xs) (k:=D-d-1) (d:=d) (l:=l) (M:=Mi) h)
    have HYE:=dq (fun h=>zbW (s:=s) (w:=xs) (k:=D-d-1) (d:=d) (l:=l) (M:=Mi) h)
    rw [show D-d-1+1=D-d by omega] at HNO HYE
    have HSO:=dq (zkS HT.out HST.out (letterN xs (d:Int)) Mi)
    have HLB:=dq (zqX HV.out (d:Int))
    clear Z
    go_wp2_with (fail)
    refine HZ.out.mono ?_
    clear HZ
    rintro e w5 ⟨rfl,b5⟩
    generalize letterN xs (d:Int)=ln at HNO HYE HSO HLB ⊢
    have HK5:=dq (HK.out.then b5)
    have HM5:=dq (HMi.out.below b5)
    have Z:=zsx mp sa la sc lc Mi s l ln w5 HM5.out (HLS.out.below b5) (HI.out.below b5) HLB.out.1 HLB.out.2 HCO.out
    rw [HM.out,HQ.out] at Z
    have HZ:=dq Z
    clear Z b5 HMi HI HLS HWB HCO
    generalize nextM Mi s l ln=r at HZ HNO HYE HSO
    obtain ⟨y,ye,My⟩:=r
    generalize hyl:y.length=yl
    have HYL:=dq hyl
    clear hyl
    go_wp2_with (fail)
    refine HZ.out.mono ?_
    clear HZ
    rintro e w6 ⟨a6,c6,rfl,I6,_,m6,k6⟩
    dsimp only at I6 m6 HNO HYE HSO ⊢
    have HI6:=dq I6
    have HM6:=dq m6
    have HK6:=dq (HK5.out.and k6)
    have hle6:=I6.le
    rw [HYL.out] at hle6
    rw [HYL.out]
    clear I6 m6 k6 HK5 HM5 HK
    by_cases h0:ye=0
    ·subst h0
     have HS6:=dq (HSO.out rfl)
     have HR6:Hid (RR=zav s xs (D-(d+1)) (d+1) y My):=dq (by rw [HRR.out,HYE.out rfl,show D-d-1=D-(d+1) by omega])
     go_wp2
     go_roundw
     case rel=>exact ⟨d+1,yl,a6,c6,y,My,by omega,rfl,by go_num,HYL,HI6,HM6,HK6,HS6,HR6⟩
     case measure=>simp [intOf];omega
    ·have HF:Hid (zqW mp M s xs w (.returned (.tuple #[.bool false,.int .i64 ye])) w6):=dq (.inr ⟨D,hd62,HV.out,HDP.out,by
      have e:=HNO.out h0
      rw [←HRR.out] at e
      have e2:=HGO.out
      rw [e,if_neg h0] at e2
      rw [e2]
      exact ⟨rfl,HM6.out,HK6.out⟩⟩)
     go_wp2
     exact bodyPost_ret (v:=.tuple #[.bool false,.int .i64 ye]) (by simp [results,Tryz.results15,go_sem]) rfl HF.out
   ·obtain rfl:d=D:=by omega
    have Z:=zqt la lc l wr HI.out
    rw [HQ.out] at Z
    have HZ:=dq Z
    clear Z
    have hle3:=HI.out.le
    rw [HQ.out] at hle3
    go_wp2_with (fail)
    refine HZ.out.mono ?_
    clear HZ
    rintro e w5 ⟨rfl,b5⟩
    have HF:Hid (zqW mp M s xs w (.returned (.tuple #[.bool (finalL l),.int .i64 0])) w5):=dq (.inr ⟨d,hd62,HV.out,HDP.out,by
     have e:=HRR.out
     rw [Nat.sub_self,zdX] at e
     have e2:=HGO.out
     rw [e,if_pos rfl] at e2
     rw [e2]
     exact ⟨rfl,HMi.out.below b5,HK.out.then b5⟩⟩)
    clear b5
    go_wp2
    exact bodyPost_ret (v:=.tuple #[.bool (finalL l),.int .i64 0]) (by simp [results,Tryz.results15,go_sem]) rfl HF.out
end Go.Proofs.YtmnkjekjknhhjaaGreatDoor
namespace Go.Proofs.YtmnkjekjknhhjaaGreatDoor
open Go.ChangeShapes Go.WideShapes Go.ChangeAt Go.RowKit Go.Maps
set_option maxRecDepth 100000 in
set_option maxHeartbeats 4000000 in
theorem ztZ {w0:World} {mp:Option Addr} {M:Mr} {gs gm lv k0:Nat} {ba:Option Addr} {bc:Nat} {b:List Lin} {qa:Option Addr} {qc:Nat} {Q:List Pr} (X:Lin) (W:World) (S:SqAt w0 mp M gs gm (.slice ba b.length bc) lv qa qc (Q.drop k0) (Q.map zhw) W) (htab:zt7 mp w0) (hbl:∀ V,MK mp w0 V→Lins V ba bc b)
  (p:Qb) (hp:QbAt W p) (sa:Option Addr) (sc:Nat) (c:List Int) (hsum:Bag W sa sc c) (hc:zaa c=true) (hcost:zez b p.x.l≤100000000000) (hlv:p.x.n=lv) (h59:lv≤59) (hw:zaa p.x.w=true) (hlow:∀ t,p.x.w.getD t 0<2 ^ p.x.n)
  (hnew:(nextM M b p.x.l (zao c)).2.1=0→PairR ⟨halfL c,(nextM M b p.x.l (zao c)).1,zaf p.x.w (zao c) p.x.n,p.x.n+1⟩)
  (hQ:∀ z∈Q,PairR z) (hlen:Q.length≤1000000000) (hk0:k0≤Q.length) :
  Calls Tryz.prog 138 #[.pointer (some ⟨gs,0,none⟩),.agg #[.slice p.ca p.x.c.length p.cc,.slice p.la p.x.l.length p.lc,.slice p.wa p.x.w.length p.wc],.slice sa c.length sc] W (zee w0 mp gs gm (.slice ba b.length bc) lv k0 qa W (zhv X b p.x c Q M)):=by
 obtain ⟨ca,cc,la,lc,wa,wc,x⟩:=p
 simp only at hp hcost hlv hw hlow hnew ⊢
 rw [hlv] at hlow hnew
 have bb:=below_alloc W (.cells #[.slice ca x.c.length cc,.slice la x.l.length lc,.slice wa x.w.length wc] 128)
 have HS1:=dq (S.below bb)
 have HP1:=dq (hp.below bb)
 have HC1:=dq (hsum.below bb)
 have HX1:=dq (Lies.new W 128 [.slice ca x.c.length cc,.slice la x.l.length lc,.slice wa x.w.length wc])
 have HK1:Hid (Kept (SX mp gs gm qa) W (W.alloc (.cells #[.slice ca x.c.length cc,.slice la x.l.length lc,.slice wa x.w.length wc] 128))):=dq (Kept.of_below bb)
 have hlez:=hsum.le
 have hleb:=(hbl w0 (MK.refl _ _)).le
 have HNX:Hid (¬SX mp gs gm qa W.heap.size):=dq (fun e=>by
  rcases e with e | e | e | e
  ·have:=S.old _ e;have:=S.kept.size;omega
  ·have:=S.box.lt;omega
  ·have:=S.map.lt;omega
  ·exact Nat.lt_irrefl _ (S.prs.lt e))
 have HNM:Hid (¬mp=some ⟨W.heap.size,0,none⟩):=dq (fun e=>HNX.out (.inl e))
 obtain ⟨om,hom⟩:∃ om:Nat,zao c=om:=⟨(zao c).toNat,by have:=(zbw c).1;show packN c=_;unfold zao;omega⟩
 have HLG:=dq (zmY (n:=lv) h59 hw hlow (zac.1 hc).1 hom)
 have Z:=zkO sa sc c 0 _ HC1.out (by omega) (by omega)
 rw [zix hc] at Z
 have HLB:Hid (0≤zao c∧zao c≤18446744073709551615):=dq (by
  have:=HLG.out.1
  have e:(2:Nat) ^ 12=4096:=by decide
  omega)
 have HRE:Hid (∀ y My,nextM M b x.l (zao c)=(y,0,My)→zhv X b x c Q M=zmk ⟨halfL c,y,zaf x.w (zao c) lv,lv+1⟩ Q My):=dq (fun y My e=>by rw [zof,e,if_pos rfl,hlv])
 have HRN:Hid (∀ y ye My,nextM M b x.l (zao c)=(y,ye,My)→ye≠0→zhv X b x c Q M=(Q,ye,My)):=dq (fun y ye My e h=>by rw [zof,e,if_neg h])
 have HPR:Hid (∀ y My,nextM M b x.l (zao c)=(y,0,My)→PairR ⟨halfL c,y,zaf x.w (zao c) lv,lv+1⟩):=dq (fun y My e=>by
  have h:=hnew (by rw [e])
  rw [e] at h
  exact h)
 have HTAB:=dq htab
 have HBL:=dq hbl
 have HQA:=dq hQ
 have HLN:=dq hlen
 have HK00:=dq hk0
 have HRT:=dq hc
 have HCO:=dq hcost
 obtain ⟨dn,hdn⟩:∃ dn,dn=(Q.drop k0).length:=⟨_,rfl⟩
 have HDN:Hid ((Q.drop k0).length=dn):=dq hdn.symm
 have ZH:=fun V (B:Bag V sa sc c)=>zuV sa sc c V B hc
 generalize hcl:c.length=cl at hlez Z ZH ⊢
 have HCL:=dq hcl
 have HZH0:=dq ZH
 generalize hbn:b.length=bn at hleb HS1 ⊢
 have HBN:=dq hbn
 generalize hn1:x.c.length=n1 at HX1 HK1 Z ⊢
 generalize hn2:x.l.length=n2 at HX1 HK1 Z ⊢
 generalize hn3:x.w.length=n3 at HX1 HK1 Z ⊢
 rw [hn1,hn2,hn3] at HS1 HP1 HC1
 have HN1:=dq hn1
 have HN2:=dq hn2
 have HN3:=dq hn3
 have HZ:=dq Z
 clear Z ZH bb S hp hsum hc hcost hw hlow hnew hQ htab hbl hlen hk0 hdn hn1 hn2 hn3 hcl hbn
 go_enter Tryz.func138,Tryz.ntmps138
 go_wp2_with (fail)
 generalize W.alloc (.cells #[.slice ca n1 cc,.slice la n2 lc,.slice wa n3 wc] 128)=W1 at HS1 HP1 HC1 HX1 HK1 HZ ⊢
 generalize hgx:W.heap.size=gx at HX1 HNX HNM ⊢
 have HGX:=dq hgx
 clear hgx
 refine HZ.out.mono ?_
 clear HZ
 rintro e W2 ⟨rfl,b2⟩
 have b2d:Below W1.heap.size W1 W2.drew:=zff b2
 have HS2:=dq (HS1.out.below b2d)
 have HP2:=dq (HP1.out.below b2d)
 have HC2:=dq (HC1.out.below b2d)
 have HX2:=dq (HX1.out.below b2d HX1.out.lt)
 have HK2:Hid (Kept (SX mp gs gm qa) W W2.drew):=dq (HK1.out.trans (Y:=fun _=>False) (Kept.of_below b2d) (fun _ _ e=>e.elim))
 clear b2 b2d HS1 HP1 HC1 HX1 HK1
 obtain ⟨nx,hnx⟩:∃ nx,nx=nextM M b x.l (zao c):=⟨_,rfl⟩
 have Z:=zsx mp ba la bc lc M b x.l (zao c) W2.drew HS2.out.meter (HBL.out _ HS2.out.kept) HP2.out.l HLB.out.1 HLB.out.2 HCO.out
 rw [HBN.out,HN2.out,←hnx] at Z
 rw [←hnx] at HRE HRN HPR
 have HNX0:=dq hnx
 rw [hom] at Z HRE HPR HLG ⊢
 have HZ:=dq Z
 clear Z hnx hom
 go_upto_region 2 with (fail)
 have bd:Lies W2.drew gs 125 (zaE mp (.slice ba bn bc) lv qa dn qc gm)∧Lies W2.drew gx 128 [.slice ca n1 cc,.slice la n2 lc,.slice wa n3 wc]:=⟨by have h:=HS2.out.box;rw [HDN.out] at h;exact h,HX2.out⟩
 refine wp_region_held_drew (S:=fun V=>Lies V gs 125 (zaE mp (.slice ba bn bc) lv qa dn qc gm)∧Lies V gx 128 [.slice ca n1 cc,.slice la n2 lc,.slice wa n3 wc]) (by kernel_rfl) bd (fun hHeld=>?_)
 clear hHeld
 refine wpAnyH_take (i:=0) (oi:=⟨some 13,.move (.tmp 0),160,"search.go:99",#[],none⟩) (v:=?_) rfl (by kernel_rfl) (by kernel_rfl) (by kernel_rfl) (fun _ _ _ h=>h) (Or.inl ⟨by rfl,?_⟩) bd ?_
 rotate_left
 ·intro w hSw
  go_simp
  try with_reducible rfl
 try simp only [Act.put,List.setIfInBounds_toArray,List.set_cons_zero,List.set_cons_succ]
 refine wpAnyH_take (i:=1) (oi:=⟨some 14,.nilCheck (.tmp 13),0,"search.go:99",#[⟨0,.data⟩],none⟩) (v:=?_) rfl (by kernel_rfl) (by kernel_rfl) (by kernel_rfl) (fun _ _ _ h=>h) (Or.inl ⟨by rfl,?_⟩) bd ?_
 rotate_left
 ·intro w hSw
  go_simp
  try with_reducible rfl
 try simp only [Act.put,List.setIfInBounds_toArray,List.set_cons_zero,List.set_cons_succ]
 refine wpAnyH_take (i:=2) (oi:=⟨some 15,.fieldAddr 125 (.tmp 14) 0,0,"search.go:99",#[⟨1,.data⟩],none⟩) (v:=?_) rfl (by kernel_rfl) (by kernel_rfl) (by kernel_rfl) (fun _ _ _ h=>h) (Or.inl ⟨by rfl,?_⟩) bd ?_
 rotate_left
 ·intro w hSw
  go_simp
  try with_reducible rfl
 try simp only [Act.put,List.setIfInBounds_toArray,List.set_cons_zero,List.set_cons_succ]
 refine wpAnyH_take (i:=3) (oi:=⟨some 16,.load 27 (.tmp 15),27,"search.go:99",#[⟨2,.data⟩],none⟩) (v:=?_) rfl (by kernel_rfl) (by kernel_rfl) (by kernel_rfl) (fun _ _ _ h=>h) (Or.inl ⟨by rfl,?_⟩) bd ?_
 rotate_left
 ·intro w hSw
  have k0:=hSw.1.cell 0
  have k1:=hSw.1.cell 1
  have y1:=hSw.2.cell 1
  simp only [zaE,List.getElem?_cons_zero,List.getElem?_cons_succ] at k0 k1 y1
  go_simp
  try with_reducible rfl
 try simp only [Act.put,List.setIfInBounds_toArray,List.set_cons_zero,List.set_cons_succ]
 refine wpAnyH_take (i:=4) (oi:=⟨some 17,.move (.tmp 0),160,"search.go:99",#[],none⟩) (v:=?_) rfl (by kernel_rfl) (by kernel_rfl) (by kernel_rfl) (fun _ _ _ h=>h) (Or.inl ⟨by rfl,?_⟩) bd ?_
 rotate_left
 ·intro w hSw
  go_simp
  try with_reducible rfl
 try simp only [Act.put,List.setIfInBounds_toArray,List.set_cons_zero,List.set_cons_succ]
 refine wpAnyH_take (i:=5) (oi:=⟨some 18,.nilCheck (.tmp 17),0,"search.go:99",#[⟨4,.data⟩],none⟩) (v:=?_) rfl (by kernel_rfl) (by kernel_rfl) (by kernel_rfl) (fun _ _ _ h=>h) (Or.inl ⟨by rfl,?_⟩) bd ?_
 rotate_left
 ·intro w hSw
  go_simp
  try with_reducible rfl
 try simp only [Act.put,List.setIfInBounds_toArray,List.set_cons_zero,List.set_cons_succ]
 refine wpAnyH_take (i:=6) (oi:=⟨some 19,.fieldAddr 125 (.tmp 18) 1,0,"search.go:99",#[⟨5,.data⟩],none⟩) (v:=?_) rfl (by kernel_rfl) (by kernel_rfl) (by kernel_rfl) (fun _ _ _ h=>h) (Or.inl ⟨by rfl,?_⟩) bd ?_
 rotate_left
 ·intro w hSw
  go_simp
  try with_reducible rfl
 try simp only [Act.put,List.setIfInBounds_toArray,List.set_cons_zero,List.set_cons_succ]
 refine wpAnyH_take (i:=7) (oi:=⟨some 20,.load 24 (.tmp 19),24,"search.go:99",#[⟨6,.data⟩],none⟩) (v:=?_) rfl (by kernel_rfl) (by kernel_rfl) (by kernel_rfl) (fun _ _ _ h=>h) (Or.inl ⟨by rfl,?_⟩) bd ?_
 rotate_left
 ·intro w hSw
  have k0:=hSw.1.cell 0
  have k1:=hSw.1.cell 1
  have y1:=hSw.2.cell 1
  simp only [zaE,List.getElem?_cons_zero,List.getElem?_cons_succ] at k0 k1 y1
  go_simp
  try with_reducible rfl
 try simp only [Act.put,List.setIfInBounds_toArray,List.set_cons_zero,List.set_cons_succ]
 refine wpAnyH_take (i:=8) (oi:=⟨some 21,.fieldAddr 128 (.tmp 4) 1,0,"search.go:99",#[],none⟩) (v:=?_) rfl (by kernel_rfl) (by kernel_rfl) (by kernel_rfl) (fun _ _ _ h=>h) (Or.inl ⟨by rfl,?_⟩) bd ?_
 rotate_left
 ·intro w hSw
  go_simp
  try with_reducible rfl
 try simp only [Act.put,List.setIfInBounds_toArray,List.set_cons_zero,List.set_cons_succ]
 refine wpAnyH_take (i:=9) (oi:=⟨some 22,.load 77 (.tmp 21),77,"search.go:99",#[⟨8,.data⟩],none⟩) (v:=?_) rfl (by kernel_rfl) (by kernel_rfl) (by kernel_rfl) (fun _ _ _ h=>h) (Or.inl ⟨by rfl,?_⟩) bd ?_
 rotate_left
 ·intro w hSw
  have k0:=hSw.1.cell 0
  have k1:=hSw.1.cell 1
  have y1:=hSw.2.cell 1
  simp only [zaE,List.getElem?_cons_zero,List.getElem?_cons_succ] at k0 k1 y1
  go_simp
  try with_reducible rfl
 try simp only [Act.put,List.setIfInBounds_toArray,List.set_cons_zero,List.set_cons_succ]
 refine wpAnyH_take (i:=10) (oi:=⟨some 23,.move (.tmp 7),82,"search.go:99",#[],none⟩) (v:=?_) rfl (by kernel_rfl) (by kernel_rfl) (by kernel_rfl) (fun _ _ _ h=>h) (Or.inl ⟨by rfl,?_⟩) bd ?_
 rotate_left
 ·intro w hSw
  go_simp
  try with_reducible rfl
 try simp only [Act.put,List.setIfInBounds_toArray,List.set_cons_zero,List.set_cons_succ]
 refine wpAnyH_ready (rs:=[11]) (by kernel_rfl) (by simp) ?_
 refine AllReadyH.cons (o:=⟨some 24,.call {callee:=.value (.func 43),args:=#[.tmp 16,.tmp 20,.tmp 22,.tmp 23],argTypes:=#[27,24,77,82]},80,"search.go:99",#[⟨3,.data⟩,⟨7,.data⟩,⟨9,.data⟩,⟨10,.data⟩],none⟩) rfl (fun K hK=>?_) AllReadyH.nil
 have Z:=HZ.out
 go_simp
 refine Z.mono ?_
 clear Z HZ
 rintro e W3 ⟨a3,c3,rfl,I3,_,m3,k3⟩
 have HS3:=dq (HS2.out.spent m3 k3)
 have HP3:=dq (HP2.out.far k3 (zdK HS2.out.meter))
 have HC3:=dq (HC2.out.farQ k3 (zdK HS2.out.meter))
 have HX3:=dq (HX2.out.kept k3 (fun e=>HNM.out e))
 have HK3:Hid (Kept (SX mp gs gm qa) W W3):=dq (HK2.out.trans k3 (fun i hi e=>.inl e))
 have HI3:=dq I3
 have hl3:=I3.le
 have b3:Lies W3 gs 125 (zaE mp (.slice ba bn bc) lv qa dn qc gm)∧Lies W3 gx 128 [.slice ca n1 cc,.slice la n2 lc,.slice wa n3 wc]:=⟨by have h:=HS3.out.box;rw [HDN.out] at h;exact h,HX3.out⟩
 clear I3 m3 k3 HS2 HP2 HC2 HX2 HK2
 obtain ⟨y,ye,My⟩:=nx
 dsimp only at HS3 HI3 hl3 ⊢
 generalize hyl:y.length=yl at hl3 ⊢
 have HYL:=dq hyl
 clear hyl
 go_wp2_with (fail)
 refine hK.out _ _ b3 (fun hHeld=>?_)
 clear hK K hHeld
 try simp only [Act.put,List.setIfInBounds_toArray,List.set_cons_zero,List.set_cons_succ]
 refine wpAnyH_take (i:=12) (oi:=⟨some 12,.move (.tmp 24),80,"search.go:99",#[⟨11,.data⟩],none⟩) (v:=?_) rfl (by kernel_rfl) (by kernel_rfl) (by kernel_rfl) (fun _ _ _ h=>h) (Or.inl ⟨by rfl,?_⟩) b3 ?_
 rotate_left
 ·intro w hSw
  go_simp
  try with_reducible rfl
 try simp only [Act.put,List.setIfInBounds_toArray,List.set_cons_zero,List.set_cons_succ]
 refine wpAnyH_take (i:=13) (oi:=⟨some 25,.extract (.tmp 12) 0,77,"search.go:99",#[⟨12,.data⟩],none⟩) (v:=?_) rfl (by kernel_rfl) (by kernel_rfl) (by kernel_rfl) (fun _ _ _ h=>h) (Or.inl ⟨by rfl,?_⟩) b3 ?_
 rotate_left
 ·intro w hSw
  go_simp
  try with_reducible rfl
 try simp only [Act.put,List.setIfInBounds_toArray,List.set_cons_zero,List.set_cons_succ]
 refine wpAnyH_take (i:=14) (oi:=⟨some 26,.extract (.tmp 12) 1,34,"search.go:99",#[⟨12,.data⟩,{on:=15,ground:=Ground.gcOnly Departure.lateStores}],none⟩) (v:=?_) rfl (by kernel_rfl) (by kernel_rfl) (by kernel_rfl) (fun _ _ _ h=>h) (Or.inl ⟨by rfl,?_⟩) b3 ?_
 rotate_left
 ·intro w hSw
  go_simp
  try with_reducible rfl
 try simp only [Act.put,List.setIfInBounds_toArray,List.set_cons_zero,List.set_cons_succ]
 refine wpAnyH_take (i:=15) (oi:=⟨some 8,.assign (.tmp 25),77,"search.go:99",#[⟨13,.data⟩,⟨11,.chain⟩,⟨0,.phase⟩,⟨1,.phase⟩,⟨2,.phase⟩,⟨3,.phase⟩,⟨4,.phase⟩,⟨5,.phase⟩,⟨6,.phase⟩,⟨7,.phase⟩,⟨8,.phase⟩,⟨9,.phase⟩,⟨10,.phase⟩,⟨11,.phase⟩,⟨12,.phase⟩,⟨13,.phase⟩,{on:=14,ground:=Ground.textOnly Departure.lateStores}],none⟩) (v:=?_) rfl (by kernel_rfl) (by kernel_rfl) (by kernel_rfl) (fun _ _ _ h=>h) (Or.inl ⟨by rfl,?_⟩) b3 ?_
 rotate_left
 ·intro w hSw
  go_simp
  try with_reducible rfl
 try simp only [Act.put,List.setIfInBounds_toArray,List.set_cons_zero,List.set_cons_succ]
 refine wpAnyH_take (i:=16) (oi:=⟨some 9,.assign (.tmp 26),34,"search.go:99",#[⟨14,.data⟩,⟨15,.chain⟩,⟨0,.phase⟩,⟨1,.phase⟩,⟨2,.phase⟩,⟨3,.phase⟩,⟨4,.phase⟩,⟨5,.phase⟩,⟨6,.phase⟩,⟨7,.phase⟩,⟨8,.phase⟩,⟨9,.phase⟩,⟨10,.phase⟩,⟨11,.phase⟩,⟨12,.phase⟩,⟨13,.phase⟩,⟨14,.phase⟩,⟨15,.phase⟩],none⟩) (v:=?_) rfl (by kernel_rfl) (by kernel_rfl) (by kernel_rfl) (fun _ _ _ h=>h) (Or.inl ⟨by rfl,?_⟩) b3 ?_
 rotate_left
 ·intro w hSw
  go_simp
  try with_reducible rfl
 try simp only [Act.put,List.setIfInBounds_toArray,List.set_cons_zero,List.set_cons_succ]
 refine wpAnyH_done (by kernel_rfl) ?_ _
 by_cases h0:ye=0
 ·subst h0
  have HRE:=dq (HRE.out y My rfl)
  have HPR:=dq (HPR.out y My rfl)
  clear HRN
  have b4:Below W3.heap.size W3 W3.drew:=⟨rfl,rfl,rfl,Nat.le_refl _,fun _ _=>rfl⟩
  have HS4:=dq (HS3.out.below b4)
  have HW4:=dq (HP3.out.w.below b4)
  have HI4:=dq (HI3.out.below b4)
  have HX4:=dq (HX3.out.below b4 HX3.out.lt)
  have HK4:Hid (Kept (SX mp gs gm qa) W W3.drew):=dq HK3.out.drew
  have HZH:=dq (HZH0.out W3.drew (HC3.out.below b4))
  clear b4 HS3 HP3 HC3 HX3 HK3 HI3 HZH0
  go_upto_region 5 with (fail)
  have bd:W3.drew.cell? ⟨gs,2,none⟩=some (.int .i64 (lv:Int))∧Lies W3.drew gx 128 [.slice ca n1 cc,.slice la n2 lc,.slice wa n3 wc]:=⟨by have h:=HS4.out.box.cell 2;simpa [zaE] using h,HX4.out⟩
  refine wp_region_held_drew (S:=fun V=>V.cell? ⟨gs,2,none⟩=some (.int .i64 (lv:Int))∧Lies V gx 128 [.slice ca n1 cc,.slice la n2 lc,.slice wa n3 wc]) (by kernel_rfl) bd (fun hHeld=>?_)
  clear hHeld
  refine wpAnyH_take (i:=0) (oi:=⟨some 30,.move (.tmp 0),160,"search.go:103",#[],none⟩) (v:=?_) rfl (by kernel_rfl) (by kernel_rfl) (by kernel_rfl) (fun _ _ _ h=>h) (Or.inl ⟨by rfl,?_⟩) bd ?_
  rotate_left
  ·intro w hSw
   go_simp
   try with_reducible rfl
  try simp only [Act.put,List.setIfInBounds_toArray,List.set_cons_zero,List.set_cons_succ]
  refine wpAnyH_take (i:=1) (oi:=⟨some 31,.move (.tmp 2),31,"search.go:103",#[],none⟩) (v:=?_) rfl (by kernel_rfl) (by kernel_rfl) (by kernel_rfl) (fun _ _ _ h=>h) (Or.inl ⟨by rfl,?_⟩) bd ?_
  rotate_left
  ·intro w hSw
   go_simp
   try with_reducible rfl
  try simp only [Act.put,List.setIfInBounds_toArray,List.set_cons_zero,List.set_cons_succ]
  refine wpAnyH_take (i:=3) (oi:=⟨some 33,.move (.tmp 8),77,"search.go:103",#[],none⟩) (v:=?_) rfl (by kernel_rfl) (by kernel_rfl) (by kernel_rfl) (fun _ _ _ h=>h) (Or.inl ⟨by rfl,?_⟩) bd ?_
  rotate_left
  ·intro w hSw
   go_simp
   try with_reducible rfl
  try simp only [Act.put,List.setIfInBounds_toArray,List.set_cons_zero,List.set_cons_succ]
  refine wpAnyH_take (i:=4) (oi:=⟨some 34,.fieldAddr 128 (.tmp 4) 2,0,"search.go:103",#[],none⟩) (v:=?_) rfl (by kernel_rfl) (by kernel_rfl) (by kernel_rfl) (fun _ _ _ h=>h) (Or.inl ⟨by rfl,?_⟩) bd ?_
  rotate_left
  ·intro w hSw
   go_simp
   try with_reducible rfl
  try simp only [Act.put,List.setIfInBounds_toArray,List.set_cons_zero,List.set_cons_succ]
  refine wpAnyH_take (i:=5) (oi:=⟨some 35,.load 31 (.tmp 34),31,"search.go:103",#[⟨4,.data⟩],none⟩) (v:=?_) rfl (by kernel_rfl) (by kernel_rfl) (by kernel_rfl) (fun _ _ _ h=>h) (Or.inl ⟨by rfl,?_⟩) bd ?_
  rotate_left
  ·intro w hSw
   have k2:=hSw.1
   have y2:=hSw.2.cell 2
   simp only [List.getElem?_cons_zero,List.getElem?_cons_succ] at y2
   go_simp
   try with_reducible rfl
  try simp only [Act.put,List.setIfInBounds_toArray,List.set_cons_zero,List.set_cons_succ]
  refine wpAnyH_take (i:=6) (oi:=⟨some 36,.move (.tmp 7),82,"search.go:103",#[],none⟩) (v:=?_) rfl (by kernel_rfl) (by kernel_rfl) (by kernel_rfl) (fun _ _ _ h=>h) (Or.inl ⟨by rfl,?_⟩) bd ?_
  rotate_left
  ·intro w hSw
   go_simp
   try with_reducible rfl
  try simp only [Act.put,List.setIfInBounds_toArray,List.set_cons_zero,List.set_cons_succ]
  refine wpAnyH_take (i:=7) (oi:=⟨some 37,.move (.tmp 0),160,"search.go:103",#[],none⟩) (v:=?_) rfl (by kernel_rfl) (by kernel_rfl) (by kernel_rfl) (fun _ _ _ h=>h) (Or.inl ⟨by rfl,?_⟩) bd ?_
  rotate_left
  ·intro w hSw
   go_simp
   try with_reducible rfl
  try simp only [Act.put,List.setIfInBounds_toArray,List.set_cons_zero,List.set_cons_succ]
  refine wpAnyH_take (i:=8) (oi:=⟨some 38,.nilCheck (.tmp 37),0,"search.go:103",#[⟨7,.data⟩],none⟩) (v:=?_) rfl (by kernel_rfl) (by kernel_rfl) (by kernel_rfl) (fun _ _ _ h=>h) (Or.inl ⟨by rfl,?_⟩) bd ?_
  rotate_left
  ·intro w hSw
   go_simp
   try with_reducible rfl
  try simp only [Act.put,List.setIfInBounds_toArray,List.set_cons_zero,List.set_cons_succ]
  refine wpAnyH_take (i:=9) (oi:=⟨some 39,.fieldAddr 125 (.tmp 38) 2,0,"search.go:103",#[⟨8,.data⟩],none⟩) (v:=?_) rfl (by kernel_rfl) (by kernel_rfl) (by kernel_rfl) (fun _ _ _ h=>h) (Or.inl ⟨by rfl,?_⟩) bd ?_
  rotate_left
  ·intro w hSw
   go_simp
   try with_reducible rfl
  try simp only [Act.put,List.setIfInBounds_toArray,List.set_cons_zero,List.set_cons_succ]
  refine wpAnyH_take (i:=10) (oi:=⟨some 40,.load 3 (.tmp 39),3,"search.go:103",#[⟨9,.data⟩],none⟩) (v:=?_) rfl (by kernel_rfl) (by kernel_rfl) (by kernel_rfl) (fun _ _ _ h=>h) (Or.inl ⟨by rfl,?_⟩) bd ?_
  rotate_left
  ·intro w hSw
   have k2:=hSw.1
   have y2:=hSw.2.cell 2
   simp only [List.getElem?_cons_zero,List.getElem?_cons_succ] at y2
   go_simp
   try with_reducible rfl
  try simp only [Act.put,List.setIfInBounds_toArray,List.set_cons_zero,List.set_cons_succ]
  refine wpAnyH_ready (rs:=[2]) (by kernel_rfl) (by simp) ?_
  refine AllReadyH.cons (o:=⟨some 32,.call {callee:=.value (.func 159),args:=#[.tmp 31],argTypes:=#[31]},31,"search.go:103",#[⟨1,.data⟩],none⟩) rfl (fun K hK=>?_) AllReadyH.nil
  have Z:=HZH.out
  go_simp
  refine Z.mono ?_
  clear Z HZH
  rintro e W5 ⟨a5,c5,rfl,B5,_,b5⟩
  have HS5:=dq (HS4.out.below b5)
  have HW5:=dq (HW4.out.below b5)
  have HI5:=dq (HI4.out.below b5)
  have HX5:=dq (HX4.out.below b5 HX4.out.lt)
  have HK5:Hid (Kept (SX mp gs gm qa) W W5):=dq (HK4.out.trans (Y:=fun _=>False) (Kept.of_below b5) (fun _ _ e=>e.elim))
  have HH5:=dq B5
  have hl5:=B5.le
  generalize hhl:(halfL c).length=hl at hl5 ⊢
  have HHL:=dq hhl
  have b5':W5.cell? ⟨gs,2,none⟩=some (.int .i64 (lv:Int))∧Lies W5 gx 128 [.slice ca n1 cc,.slice la n2 lc,.slice wa n3 wc]:=⟨by have h:=HS5.out.box.cell 2;simpa [zaE] using h,HX5.out⟩
  clear B5 b5 hhl HS4 HW4 HI4 HX4 HK4
  go_wp2_with (fail)
  refine hK.out _ _ b5' (fun hHeld=>?_)
  clear hK K hHeld
  try simp only [Act.put,List.setIfInBounds_toArray,List.set_cons_zero,List.set_cons_succ]
  refine wpAnyH_ready (rs:=[11]) (by kernel_rfl) (by simp) ?_
  refine AllReadyH.cons (o:=⟨some 41,.call {callee:=.value (.func 160),args:=#[.tmp 35,.tmp 36,.tmp 40],argTypes:=#[31,82,3]},31,"search.go:103",#[⟨5,.data⟩,⟨6,.data⟩,⟨10,.data⟩,⟨2,.chain⟩],none⟩) rfl (fun K hK=>?_) AllReadyH.nil
  have Z:=zqR wa wc x.w om lv W5 HW5.out HLG.out.1 (by omega) HLG.out.2.1
  rw [HN3.out,HLG.out.2.2] at Z
  go_simp
  refine Z.mono ?_
  clear Z
  rintro e W6 ⟨a6,c6,rfl,B6,_,b6⟩
  have HS6:=dq (HS5.out.below b6)
  have HI6:=dq (HI5.out.below b6)
  have HX6:=dq (HX5.out.below b6 HX5.out.lt)
  have HK6:Hid (Kept (SX mp gs gm qa) W W6):=dq (HK5.out.trans (Y:=fun _=>False) (Kept.of_below b6) (fun _ _ e=>e.elim))
  have HH6:=dq (HH5.out.below b6)
  have HB6:=dq B6
  have hl6:=B6.le
  generalize hwl:(zaf x.w (om:Int) lv).length=wl at hl6 ⊢
  have HWL:=dq hwl
  have b6':W6.cell? ⟨gs,2,none⟩=some (.int .i64 (lv:Int))∧Lies W6 gx 128 [.slice ca n1 cc,.slice la n2 lc,.slice wa n3 wc]:=⟨by have h:=HS6.out.box.cell 2;simpa [zaE] using h,HX6.out⟩
  clear B6 b6 hwl HS5 HI5 HX5 HK5 HH5 HW5
  go_wp2_with (fail)
  refine hK.out _ _ b6' (fun hHeld=>?_)
  clear hK K hHeld
  try simp only [Act.put,List.setIfInBounds_toArray,List.set_cons_zero,List.set_cons_succ]
  refine wpAnyH_take (i:=12) (oi:=⟨some 42,.build 128 #[(0,.tmp 32),(1,.tmp 33),(2,.tmp 41)],128,"search.go:103",#[⟨2,.data⟩,⟨3,.data⟩,⟨11,.data⟩],none⟩) (v:=?_) rfl (by kernel_rfl) (by kernel_rfl) (by kernel_rfl) (fun _ _ _ h=>h) (Or.inl ⟨by rfl,?_⟩) b6' ?_
  rotate_left
  ·intro w hSw
   go_simp
   try with_reducible rfl
  try simp only [Act.put,List.setIfInBounds_toArray,List.set_cons_zero,List.set_cons_succ]
  refine wpAnyH_ready (rs:=[13]) (by kernel_rfl) (by simp) ?_
  refine AllReadyH.cons (o:=⟨some 43,.call {callee:=.value (.func 85),args:=#[.tmp 30,.tmp 42],argTypes:=#[160,128]},34,"search.go:103",#[⟨0,.data⟩,⟨12,.data⟩,⟨11,.chain⟩],none⟩) rfl (fun K hK=>?_) AllReadyH.nil
  have Z:=zuK W6 HS6.out HTAB.out ⟨a5,c5,a3,c3,a6,c6,⟨halfL c,y,zaf x.w (om:Int) lv,lv+1⟩⟩ ⟨HH6.out,HI6.out,HB6.out⟩ HPR.out HQA.out HLN.out HK00.out
  simp only at Z
  rw [HHL.out,HYL.out,HWL.out] at Z
  go_simp
  refine Z.mono ?_
  clear Z
  rintro e W7 ⟨rfl,qa7,qc7,s7,k7,f7⟩
  have hx7:Lies W7 gx 128 [.slice ca n1 cc,.slice la n2 lc,.slice wa n3 wc]:=HX6.out.kept k7 HNX.out
  have b7:W7.cell? ⟨gs,2,none⟩=some (.int .i64 (lv:Int))∧Lies W7 gx 128 [.slice ca n1 cc,.slice la n2 lc,.slice wa n3 wc]:=⟨by have h:=s7.box.cell 2;simpa [zaE] using h,hx7⟩
  have HF:Hid (zee w0 mp gs gm (.slice ba bn bc) lv k0 qa W (zhv X b x c Q M) (.returned (.int .i64 (zmk ⟨halfL c,y,zaf x.w (om:Int) lv,lv+1⟩ Q My).2.1)) W7):=dq (by
   rw [HRE.out]
   exact ⟨rfl,qa7,qc7,s7,HK6.out.trans k7 (fun i hi e=>e),fun g e=>(f7 g e).imp id (fun h=>Nat.le_trans HK6.out.size h)⟩)
  clear s7 k7 f7 hx7
  generalize (zmk ⟨halfL c,y,zaf x.w (om:Int) lv,lv+1⟩ Q My).2.1=er at HF ⊢
  go_wp2_with (fail)
  refine hK.out _ _ b7 (fun hHeld=>?_)
  clear hK K hHeld
  try simp only [Act.put,List.setIfInBounds_toArray,List.set_cons_zero,List.set_cons_succ]
  refine wpAnyH_take (i:=14) (oi:=⟨some 6,.assign (.tmp 43),34,"search.go:103",#[⟨13,.data⟩,⟨13,.chain⟩,⟨0,.phase⟩,⟨1,.phase⟩,⟨2,.phase⟩,⟨3,.phase⟩,⟨4,.phase⟩,⟨5,.phase⟩,⟨6,.phase⟩,⟨7,.phase⟩,⟨8,.phase⟩,⟨9,.phase⟩,⟨10,.phase⟩,⟨11,.phase⟩,⟨12,.phase⟩,⟨13,.phase⟩],none⟩) (v:=?_) rfl (by kernel_rfl) (by kernel_rfl) (by kernel_rfl) (fun _ _ _ h=>h) (Or.inl ⟨by rfl,?_⟩) b7 ?_
  rotate_left
  ·intro w hSw
   go_simp
   try with_reducible rfl
  try simp only [Act.put,List.setIfInBounds_toArray,List.set_cons_zero,List.set_cons_succ]
  refine wpAnyH_done (by kernel_rfl) ?_ _
  go_wp2
  go_ret
  exact HF.out
 ·have HF:Hid (zee w0 mp gs gm (.slice ba bn bc) lv k0 qa W (zhv X b x c Q M) (.returned (.int .i64 ye)) W3):=dq (by
   rw [HRN.out y ye My rfl h0]
   exact ⟨rfl,qa,qc,HS3.out,HK3.out,fun g e=>.inl e⟩)
  go_wp2
  go_ret
  exact HF.out
end Go.Proofs.YtmnkjekjknhhjaaGreatDoor
