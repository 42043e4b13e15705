import Derived.Test.YtmnkjekjknhhjaaGreatDoorTq
import Derived.Test.YtmnkjekjknhhjaaGreatDoorWa
import Derived.Test.YtmnkjekjknhhjaaGreatDoorHa
import Derived.Lib.UnsafeStr
import Derived.Deep.RegionHeld3
import Derived.Deep.AppendLies
import Derived.Test.YtmnkjekjknhhjaaGreatDoorXb
import Derived.Maps.OwnOps
import Derived.Maps.Views
import Derived.StringKeys
import Derived.Maps.OwnSet
namespace Go.Proofs.YtmnkjekjknhhjaaGreatDoor
open Go.ChangeShapes Go.WideShapes Go.ChangeAt Go.RowKit
def Bys (w:World) (a:Option Addr) (c:Nat) (l:List UInt8):Prop:=Row w 5 a c (Lib.byteCells l)
theorem ztM (l:List UInt8):∀ x∈Lib.byteCells l,x.oneCell'=true:=fun x hx=>by
 obtain ⟨z,_,rfl⟩:=List.mem_map.1 hx
 rfl
theorem ztN (l k:List UInt8):Lib.byteCells (l++k)=Lib.byteCells l++Lib.byteCells k:=List.map_append ..
theorem Tryz.info5:(Tryz.prog.info? 5).map (fun i=>(i.zero,i.size,i.bytes))=some (some (.int .u8 0),1,1):=by kernel_rfl
set_option maxRecDepth 100000 in
theorem zr0 (t ty:TypeId) (hu:Tryz.prog.underlying t=some (.slice 5))
  (a:Option Addr) (c n:Nat) (xs:List Value) (w:World) (R:Row w 5 a c xs) (hn:n=xs.length) (ad:Addr) (m d:Nat) (ys:List Value) (hm:m=ys.length) (hc:∀ j u,ys[j]? = some u→w.cell? (ad.add j)=some u) (h1:∀ u∈ys,u.oneCell'=true) (hb:xs.length+ys.length≤1000000000000) :
  ∃ v w',(Builtin.append_ #[t,t] ty #[.slice a n c,.slice (some ad) m d]).run Tryz.prog w=.ok v w'∧Appends 5 a xs ys w v w':=by
 subst hn
 subst hm
 obtain ⟨i,hi,hz,hsz,hby⟩:=info_parts Tryz.info5
 have hform:a=none∨∃ g,a=some ⟨g,0,none⟩:=by
  rcases R with ⟨e,_⟩ | ⟨g,_,e,_⟩
  ·exact .inl e
  ·exact .inr ⟨g,e⟩
 obtain ⟨v',w',hr,h2,h3,_,h5⟩:=run_append_own_at (P:=Tryz.prog) w 0 t ty 5 i _ 1 1 hu hi hz hsz hby (by simp [Value.cells]) (by omega) _ xs.length xs R.own
  ad ys.length d ys (by rw [Nat.mul_one]) hc h1 (by unfold maxLen;omega) (by omega) (Nat.zero_le _)
 obtain ⟨a',c',rfl,r',_⟩:=zhN h2
 rw [List.length_append] at hr h5
 refine ⟨_,w',hr,a',c',rfl,r',?_,fun g e=>?_⟩
 ·refine ⟨h3.os,h3.tape,h3.output,h3.size,fun g hg hx=>h3.block g hg (fun e=>?_)⟩
  obtain ⟨x,rfl,hx'⟩:=(ownBlock_slice a _ _ g).1 e.symm
  rcases hform with h | ⟨g',h⟩
  ·cases h
  ·injection h with h;subst h;subst hx';exact hx rfl
 ·subst e
  rcases h5 with h5 | h5
  ·obtain ⟨x,rfl,hx⟩:=(ownBlock_slice a xs.length c g).1 (by rw [←h5];rfl)
   rcases hform with h | ⟨g',h⟩
   ·cases h
   ·injection h with h;subst h;subst hx;exact .inl rfl
  ·have:g=w.heap.size:=by simpa [Value.ownBlock] using h5
   exact .inr (by omega)
structure Gr (w:World) (ba:Option Addr) (w':World) (a:Option Addr):Prop where
 kept:Kept (fun g=>ba=some ⟨g,0,none⟩) w w'
 new:∀ g,a=some ⟨g,0,none⟩→ba=some ⟨g,0,none⟩∨w.heap.size≤g
section
variable {w w' V:World} {ba a b:Option Addr} {g:Nat} {t:TypeId} {cs:List Value}
theorem Gr.refl (w:World) (a:Option Addr):Gr w a w a:=⟨Kept.refl _ _,fun _ e=>.inl e⟩
theorem Gr.trans (h:Gr w ba w' a) (k:Gr w' a V b):Gr w ba V b:=
 ⟨h.kept.trans k.kept (fun i hi e=>(h.new i e).resolve_right (by omega)),fun g e=>by
  rcases k.new g e with e | e
  ·exact h.new g e
  ·exact .inr (Nat.le_trans h.kept.size e)⟩
theorem Gr.alloc (h:Gr w ba w' a) (o:Obj):Gr w ba (w'.alloc o) a:=⟨h.kept.alloc o,h.new⟩
theorem Gr.ofBelow (h:Below w.heap.size w w') (a:Option Addr):Gr w a w' a:=⟨Kept.of_below h,fun _ e=>.inl e⟩
theorem Gr.lies (h:Gr w ba w' a) (l:Lies w g t cs) (n:ba≠some ⟨g,0,none⟩):Lies w' g t cs:=l.kept h.kept n
theorem Gr.ne (h:Gr w ba w' a) (l:g<w.heap.size) (n:ba≠some ⟨g,0,none⟩):a≠some ⟨g,0,none⟩:=fun e=>by
 rcases h.new g e with e | e
 ·exact n e
 ·omega
theorem Gr.below {B:Nat} (h:Gr w ba w' a) (hB:B≤w.heap.size) (f:From B ba):Below B w w'∧From B a:=⟨h.kept.below (fun g e=>f g e) hB,fun g e=>by
 rcases h.new g e with e | e
 ·exact f g e
 ·omega⟩
theorem Bys.apart {c:Nat} {l:List UInt8} (h:Bys w a c l) (k:Lies w g t cs) (ht:t≠5):a≠some ⟨g,0,none⟩:=fun e=>by
 rcases h with ⟨h1,_⟩ | ⟨g',sp,h1,_,_,l⟩
 ·rw [h1] at e;cases e
 ·rw [h1] at e;injection e with e;injection e with e;subst e
  exact k.other l ht rfl
theorem Bys.lt {c:Nat} {l:List UInt8} (h:Bys w a c l) (e:a=some ⟨g,0,none⟩):g<w.heap.size:=Row.lt h e
theorem Bys.bag {c d:Nat} {l:List UInt8} {xs:List Int} (h:Bys w ba c l) (k:Gr w ba w' a) (r:Bag w b d xs):Bag w' b d xs:=r.kept k.kept (fun g e=>by
 rcases r with ⟨h1,_⟩ | ⟨g',sp,h1,_,_,l⟩
 ·rw [h1] at e;cases e
 ·rw [h1] at e;injection e with e;injection e with e;subst e
  exact h.apart l (by decide))
end
set_option maxRecDepth 100000 in
theorem zhk (ty:TypeId) (a:Option Addr) (c n:Nat) (xs:List UInt8) (W:World) (R:Bys W a c xs) (hn:xs.length=n) (hs:n≤100000000000) (ys:List UInt8) (l:Nat) (hl:ys.length=l) (h2:l≤10) (gy:Nat) (cs:List Value) (hcs:cs=Lib.byteCells ys) (l3:Lies W gy 5 cs) :
  ∃ a2 c2 w2,(Builtin.append_ #[165,165] ty #[.slice a n c,.slice (some ⟨gy,0,none⟩) l l]).run Tryz.prog W=.ok (.slice a2 (n+l) c2) w2∧
   Bys w2 a2 c2 (xs++ys)∧Gr W a w2 a2:=by
 subst hn
 subst hl
 subst hcs
 obtain ⟨v2,w2,hr,A2⟩:=zr0 165 ty Tryz.underlying165 a c xs.length (Lib.byteCells xs) W R (Lib.byteCells_length xs).symm
  ⟨gy,0,none⟩ ys.length ys.length (Lib.byteCells ys) (Lib.byteCells_length ys).symm (fun j u hj=>by rw [Addr.add_lit];simpa using (l3.cell (0+j)).trans (by simpa using hj)) (ztM ys) (by rw [Lib.byteCells_length,Lib.byteCells_length];omega)
 obtain ⟨a2,c2,rfl,r2,k2,f2⟩:=A2
 rw [Lib.byteCells_length,Lib.byteCells_length] at hr
 refine ⟨a2,c2,w2,hr,?_,k2,f2⟩
 unfold Bys
 rw [ztN]
 exact r2
theorem zu1 (ty:TypeId) (a:Option Addr) (c n:Nat) (xs:List UInt8) (W:World) (R:Bys W a c xs) (hn:xs.length=n) (hs:n≤100000000000) (ys:List UInt8) (l:Nat) (hl:ys.length=l) (h2:l≤10)
  (cs:Array Value) (hcs:cs=(Lib.byteCells ys).toArray) :
  ∃ a2 c2 w2,(Builtin.append_ #[165,165] ty #[.slice a n c,.slice (some ⟨W.heap.size,0,none⟩) l l]).run Tryz.prog (W.alloc (.cells cs 5))=.ok (.slice a2 (n+l) c2) w2∧
   Bys w2 a2 c2 (xs++ys)∧Gr W a w2 a2:=by
 subst hcs
 obtain ⟨a2,c2,w2,hr,r2,g2⟩:=zhk ty a c n xs (W.alloc (.cells (Lib.byteCells ys).toArray 5)) (Row.below R (below_alloc _ _)) hn hs ys l hl h2 W.heap.size _ rfl (Lies.new W 5 (Lib.byteCells ys))
 exact ⟨a2,c2,w2,hr,r2,((Gr.refl W a).alloc _).trans g2⟩
def zuT (w:World) (ba:Option Addr) (l:List UInt8) (e:Ending) (w':World):Prop:=
 ∃ a c,e=.returned (.slice a l.length c)∧Bys w' a c l∧Gr w ba w' a
end Go.Proofs.YtmnkjekjknhhjaaGreatDoor
namespace Go.Proofs.YtmnkjekjknhhjaaGreatDoor
open Go.ChangeShapes Go.WideShapes Go.ChangeAt Go.RowKit
def zgx (xs:List Int) (k:Nat):List UInt8:=(xs.take k).flatMap (fun n=>leN 8 n.toNat)
theorem zjU {xs:List Int} {k:Nat} (hk:k<xs.length):zgx xs (k+1)=zgx xs k++leN 8 (xs.getD k 0).toNat:=by
 unfold zgx
 rw [List.take_succ_eq_append_getElem hk,List.flatMap_append]
 simp [List.getD,hk]
theorem ziF (xs:List Int):∀ k,k≤xs.length→(zgx xs k).length=8*k
 | 0,_=>by simp [zgx]
 | k+1,h=>by rw [zjU (by omega),List.length_append,zgS,ziF xs k (by omega)];omega
theorem zr1 {v:Int} (h:0≤v) (j:Nat):((UInt8.ofNat (v.toNat/256 ^ j)).toNat:Int)=v/2 ^ (8*j) % 256:=by
 obtain ⟨m,rfl⟩:∃ m:Nat,v=m:=⟨v.toNat,by omega⟩
 have e:(256:Nat) ^ j=2 ^ (8*j):=by rw [Nat.pow_mul]
 have e2:(2:Int) ^ (8*j)=((2 ^ (8*j):Nat):Int):=by rw [Int.natCast_pow];rfl
 rw [UInt8.toNat_ofNat',e,Int.toNat_natCast,e2,←Int.natCast_ediv]
 generalize m/2 ^ (8*j)=q
 omega
set_option maxRecDepth 100000 in
theorem zl5 (w:World) (ba:Option Addr) (bc bn:Nat) (l:List UInt8) (R:Hid (Bys w ba bc l)) (hl:Hid (l.length=bn)) (hs:bn≤10000000000)
  (xa:Option Addr) (xc n:Nat) (xs:List Int) (S:Hid (Bag w xa xc xs)) (hn:Hid (xs.length=n)) (hr:Hid (zaa xs=true)) (hn12:n≤12) :
  Calls Tryz.prog 119 #[.slice ba bn bc,.slice xa n xc] w (zuT w ba (l++zaH xs)):=by
 obtain ⟨a1,c1,w1,hr1,r1,g1⟩:=zu1 165 ba bc bn l w R.out hl.out (by omega) [UInt8.ofNat n] 1 rfl (by omega) #[.int .u8 (n:Int)] (by simp [Lib.byteCells];omega)
 have R1:=dq r1
 have G1:=dq g1
 clear r1 g1
 go_enter Tryz.func119,Tryz.ntmps119
 go_wp2_with (at_builtin;refine Lib.wpList_append_run _ rfl _ _ _ _ rfl _ _ rfl rfl _ _ hr1 ?_)
 clear hr1
 go_loopw [0,16] (fun b i wr=>∃ (k:Nat) (a:Option Addr) (c:Nat),k≤n∧i=.int .i64 k∧b=.slice a (bn+1+8*k) c∧Hid (Bys wr a c (l++UInt8.ofNat n::zgx xs k))∧Hid (Gr w ba wr a)) (fun _ i _=>n-(intOf i).toNat)
 case atStart=>exact ⟨0,a1,c1,Nat.zero_le _,rfl,rfl,dq (by have:=R1.out;simpa [zgx] using this),G1⟩
 case round=>
  clear R1 G1
  obtain ⟨k,a2,c2,hk,rfl,rfl,R2,G2⟩:=hrel
  by_cases hlt:k<n
  ·obtain ⟨g,rfl,hc⟩:=(R.out.bag G2.out S.out).at (k:=k) (by rw [hn.out];exact hlt)
   have hb:=zae hr.out k
   have HS:Hid (zgx xs (k+1)=zgx xs k++leN 8 (xs.getD k 0).toNat):=dq (zjU (by rw [hn.out];exact hlt))
   have HL:Hid ((l++UInt8.ofNat n::zgx xs k).length=bn+1+8*k):=dq (by rw [List.length_append,List.length_cons,ziF xs k (by rw [hn.out];omega),hl.out];omega)
   generalize xs.getD k 0=v at hc hb HS
   obtain ⟨lk,HK⟩:∃ lk,Hid (lk=l++UInt8.ofNat n::zgx xs k):=⟨_,dq rfl⟩
   rw [←HK.out] at R2 HL
   have i1:(0:Int)≤(k:Int):=by omega
   have i2:(k:Int)<(n:Int):=by omega
   go_wp2
   go_loopw [0,7] (fun b i wr=>∃ (j:Nat) (a:Option Addr) (c:Nat),j≤8∧i=.int .i64 j∧b=.slice a (bn+1+8*k+j) c∧Hid (Bys wr a c (lk++leN j v.toNat))∧Hid (Gr w ba wr a)) (fun _ i _=>8-(intOf i).toNat)
   case atStart=>exact ⟨0,a2,c2,Nat.zero_le _,rfl,rfl,dq (by have:=R2.out;simpa [leN] using this),G2⟩
   case round=>
    clear R2 G2
    obtain ⟨j,a3,c3,hj,rfl,rfl,R3,G3⟩:=hrel
    by_cases hj8:j<8
    ·have i3:(0:Int)≤(j:Int):=by omega
     have i4:(j:Int)<8:=by omega
     obtain ⟨a4,c4,w4,hr4,r4,g4⟩:=zu1 165 a3 c3 (bn+1+8*k+j) (lk++leN j v.toNat) wr R3.out (by rw [List.length_append,zgS,HL.out]) (by omega) [UInt8.ofNat (v.toNat/256 ^ j)] 1 rfl (by omega) #[.int .u8 (v/2 ^ (8*j) % 256)] (by rw [←zr1 hb.1 j];rfl)
     have R4:Hid (Bys w4 a4 c4 (lk++leN (j+1) v.toNat)):=dq (by rw [znX,←List.append_assoc];exact r4)
     have G4:=dq (G3.out.trans g4)
     clear r4 g4
     go_wp2_with (at_builtin;refine Lib.wpList_append_run _ rfl _ _ _ _ rfl _ _ rfl rfl _ _ hr4 ?_)
     go_roundw
     case rel=>exact ⟨j+1,a4,c4,by omega,by go_num,rfl,R4,G4⟩
     case measure=>simp [intOf];omega
    ·obtain rfl:j=8:=by omega
     have R5:Hid (Bys wr a3 c3 (l++UInt8.ofNat n::zgx xs (k+1))):=dq (by have:=R3.out;rw [HK.out] at this;rw [HS.out];simpa using this)
     go_wp2
     go_roundw
     case rel=>exact ⟨k+1,a3,c3,by omega,by go_num,by first | rfl | (congr 1),R5,G3⟩
     case measure=>simp [intOf];omega
  ·obtain rfl:k=n:=by omega
   go_wp2
   go_ret
   have e:l++UInt8.ofNat k::zgx xs k=l++zaH xs:=by
    unfold zaH zgx
    rw [hn.out,List.take_of_length_le (by rw [hn.out];exact Nat.le_refl _)]
   have e2:(l++zaH xs).length=bn+1+8*k:=by
    rw [←e,List.length_append,List.length_cons,ziF xs k (by rw [hn.out];exact Nat.le_refl _),hl.out];omega
   rw [e] at R2
   exact ⟨a2,c2,by rw [e2];try rfl,R2.out,G2.out⟩
end Go.Proofs.YtmnkjekjknhhjaaGreatDoor
namespace Go.Proofs.YtmnkjekjknhhjaaGreatDoor
open Go.ChangeShapes Go.WideShapes Go.ChangeAt Go.RowKit
theorem ze9 (xs:List Int):(zaH xs).length=1+8*xs.length:=by
 unfold zaH
 rw [List.length_cons]
 have:∀ l:List Int,(l.flatMap (fun n=>leN 8 n.toNat)).length=8*l.length:=by
  intro l
  induction l with
  | nil=>rfl
  | cons y r ih=>rw [List.flatMap_cons,List.length_append,zgS,ih,List.length_cons];omega
 rw [this];omega
theorem ztO {n:Nat} (h:n<256):IntKind.u8.wrap (n:Int)=(n:Int):=by
 have e:IntKind.u8.wrap (n:Int)=(n:Int) % 256:=rfl
 rw [e]
 omega
def textK (cs:List Int) (l:List It) (k:Nat):List UInt8:=zaH cs++(l.take k).flatMap zgv
theorem zoP {cs:List Int} {l:List It} {k:Nat} (hk:k<l.length):textK cs l (k+1)=textK cs l k++zgv (itAt l k):=by
 unfold textK
 rw [List.take_succ_eq_append_getElem hk,List.flatMap_append,←List.append_assoc,za3 hk]
 simp
set_option maxRecDepth 100000 in
set_option maxHeartbeats 4000000 in
theorem zuG (ca la:Option Addr) (cc lc:Nat) (cs:List Int) (l:List It) (wv qv:Value) (w:World) (hC:Bag w ca cc cs) (hL:Its w la lc l) (hr:Hid (zaa cs=true)) (hi:Hid (∀ x∈l,zah x=true∧0≤x.j∧x.j<100)) (hl:l.length≤50000000) :
  Calls Tryz.prog 87 #[.agg #[.slice ca cs.length cc,.slice la l.length lc,wv,qv]] w (fun e w'=>e=.returned (.string ⟨(textB cs l).toArray⟩)∧Below w.heap.size w w'):=by
 have HC:=dq hC
 have HL:=dq hL
 have hle:=hL.le
 have h12:cs.length≤12:=(zac.1 hr.out).1
 generalize hn:cs.length=n at h12 ⊢
 generalize hm:l.length=m at hle hl ⊢
 have HN1:=dq hn
 have HM:=dq hm
 clear hC hL hn hm
 have HB0:Hid (Below w.heap.size w (w.alloc (.cells #[.slice ca n cc,.slice la m lc,wv,qv] 132))):=dq (below_alloc _ _)
 have HP0:Hid (Lies (w.alloc (.cells #[.slice ca n cc,.slice la m lc,wv,qv] 132)) w.heap.size 132 [.slice ca n cc,.slice la m lc,wv,qv]):=dq (Lies.new _ _ _)
 have HZ0:=dq (zl5 (w.alloc (.cells #[.slice ca n cc,.slice la m lc,wv,qv] 132)) none 0 0 [] (dq (Row.nil _ 5)) (dq rfl) (by omega) ca cc n cs (dq (HC.out.below HB0.out)) HN1 hr h12)
 go_enter Tryz.func87,Tryz.ntmps87
 go_wp2_with (fail)
 refine HZ0.out.mono ?_
 clear HZ0
 rintro e w1 ⟨a1,c1,rfl,r1,g1⟩
 have hG1:=g1.below (B:=w.heap.size) HB0.out.size (From.none _)
 have HP1:=dq (g1.lies HP0.out (fun e=>by cases e))
 have HG1:Hid (Gr w none w1 a1):=dq (((Gr.ofBelow HB0.out none).trans g1))
 have p1:=HP1.out.cell 1
 simp only [List.getElem?_cons_zero,List.getElem?_cons_succ] at p1
 rw [List.nil_append] at r1 ⊢
 have HR1:=dq r1
 obtain ⟨N1,hN1⟩:∃ N,N=(zaH cs).length:=⟨_,rfl⟩
 rw [←hN1]
 have HNN:Hid ((zaH cs).length=N1∧N1≤97):=dq ⟨hN1.symm,by rw [hN1,ze9,HN1.out];omega⟩
 clear r1 g1 hG1 hN1 HP0
 go_wp2
 go_loopw [3,13] (fun b i wr=>∃ (k N:Nat) (ta:Option Addr) (tc:Nat),k≤m∧b=.slice ta N tc∧i=.int .i64 k∧Hid (Bys wr ta tc (textK cs l k))∧Hid ((textK cs l k).length=N∧N≤97+101*k)∧Hid (Gr w none wr ta)) (fun _ i _=>m-(intOf i).toNat)
 case atStart=>exact ⟨0,N1,a1,c1,Nat.zero_le _,rfl,rfl,dq (by simpa [textK] using HR1.out),dq ⟨by simpa [textK] using HNN.out.1,HNN.out.2⟩,HG1⟩
 case round=>
  clear HR1 HG1 HNN
  obtain ⟨k,N,ta,tc,hk,rfl,rfl,HR,HN,HG⟩:=hrel
  by_cases hlt:k<m
  ·have HBW:=dq (HG.out.kept.below (B:=w.heap.size) (fun g e=>by cases e) (Nat.le_refl _))
   obtain ⟨g,b,d,e1,c0,c1,B1⟩:=(HL.out.below HBW.out).at (k:=k) (by rw [HM.out];exact hlt)
   subst e1
   have hmem:itAt l k∈l:=by rw [za3 (by rw [HM.out];exact hlt)];exact List.getElem_mem _
   obtain ⟨hri,hj0,hj1⟩:=hi.out _ hmem
   have HFL:Hid (textK cs l (k+1)=textK cs l k++zgv (itAt l k)):=dq (zoP (by rw [HM.out];exact hlt))
   generalize itAt l k=z at c0 c1 B1 hri hj0 hj1 HFL
   obtain ⟨j,xs⟩:=z
   obtain ⟨jn,rfl⟩:∃ jn:Nat,j=jn:=⟨j.toNat,by have:0≤j:=hj0;omega⟩
   have hjn:jn<100:=by have:(jn:Int)<100:=hj1;omega
   have HRX:Hid (zaa xs=true):=dq hri
   have hu12:xs.length≤12:=(zac.1 hri).1
   have hble:=B1.le
   simp only at c0 c1 B1 hble
   generalize hu:xs.length=u at c1 hu12 hble
   have HU:=dq hu
   have HBL:Hid ((zaH xs).length≤97):=dq (by rw [ze9,hu];omega)
   clear hmem hri hj0 hj1 hu
   have bb:=below_alloc wr (.cells #[.int .i64 (jn:Int),.slice b u d] 111)
   have HX:=dq (Lies.new wr 111 [.int .i64 (jn:Int),.slice b u d])
   have HRW:Hid (Bys (wr.alloc (.cells #[.int .i64 (jn:Int),.slice b u d] 111)) ta tc (textK cs l k)):=dq (Row.below HR.out bb)
   have HBX:=dq (B1.below bb)
   have HGW:=dq (HG.out.alloc (.cells #[.int .i64 (jn:Int),.slice b u d] 111))
   have i1:(0:Int)≤(k:Int):=by omega
   have i2:(k:Int)<(m:Int):=by omega
   clear B1 bb HR HG
   go_upto_region 6 with (fail)
   clear c0 c1
   have HIB:Hid (zgv ⟨(jn:Int),xs⟩=47::UInt8.ofNat jn::0::(zaH xs++[59])):=dq (by
    unfold zgv
    rw [show ((⟨(jn:Int),xs⟩:It).j).toNat/256=0 by show (jn:Int).toNat/256=0;omega]
    rfl)
   have HCJ:Hid ([.int .u8 47,.int .u8 (jn:Int),.int .u8 0]=Lib.byteCells [47,UInt8.ofNat jn,0]):=dq (by
    have:((UInt8.ofNat jn).toNat:Int)=jn:=by rw [UInt8.toNat_ofNat'];omega
    simp [Lib.byteCells];omega)
   have HW5:Hid (IntKind.u8.wrap (jn:Int)=(jn:Int)):=dq (ztO (by omega))
   have HW0:Hid (IntKind.u8.wrap 0=0):=dq (by decide)
   have HS8:Hid ((jn:Int)/256=0):=dq (by omega)
   generalize wr.alloc (.cells #[.int .i64 (jn:Int),.slice b u d] 111)=W at HX HRW HBX HGW ⊢
   generalize wr.heap.size=gx at HX ⊢
   generalize textK cs l k=lk at HRW HN HFL
   have bd:Lies W.drew gx 111 [.int .i64 (jn:Int),.slice b u d]:=HX.out
   clear HX
   refine wp_region_held_drew (S:=fun V=>Lies V gx 111 [.int .i64 (jn:Int),.slice b u d]) (by kernel_rfl) bd (fun hHeld=>?_)
   clear hHeld
   refine wpAnyH_take (i:=0) (oi:=⟨some 17,.move (.tmp 3),165,"ref.go:618",#[],none⟩) (v:=?_) rfl (by kernel_rfl) (by kernel_rfl) (by kernel_rfl) (fun _ _ _ h=>h) (Or.inl ⟨by rfl,?_⟩) bd ?_
   rotate_left
   ·intro w hSw
    go_simp
    try with_reducible rfl
   try simp only [Act.put,List.setIfInBounds_toArray,List.set_cons_zero,List.set_cons_succ]
   refine wpAnyH_take (i:=1) (oi:=⟨some 18,.fieldAddr 111 (.tmp 5) 0,0,"ref.go:618",#[],none⟩) (v:=?_) rfl (by kernel_rfl) (by kernel_rfl) (by kernel_rfl) (fun _ _ _ h=>h) (Or.inl ⟨by rfl,?_⟩) bd ?_
   rotate_left
   ·intro w hSw
    go_simp
    try with_reducible rfl
   try simp only [Act.put,List.setIfInBounds_toArray,List.set_cons_zero,List.set_cons_succ]
   refine wpAnyH_take (i:=2) (oi:=⟨some 19,.load 3 (.tmp 18),3,"ref.go:618",#[⟨1,.data⟩],none⟩) (v:=?_) rfl (by kernel_rfl) (by kernel_rfl) (by kernel_rfl) (fun _ _ _ h=>h) (Or.inl ⟨by rfl,?_⟩) bd ?_
   rotate_left
   ·intro w hSw
    have k0:=hSw.cell 0
    have k1:=hSw.cell 1
    simp only [List.getElem?_cons_zero,List.getElem?_cons_succ] at k0 k1
    go_simp
    try with_reducible rfl
   try simp only [Act.put,List.setIfInBounds_toArray,List.set_cons_zero,List.set_cons_succ]
   refine wpAnyH_take (i:=3) (oi:=⟨some 20,.convert 3 5 (.tmp 19),5,"ref.go:618",#[⟨2,.data⟩],none⟩) (v:=.int .u8 (jn:Int)) rfl (by kernel_rfl) (by kernel_rfl) (by kernel_rfl) (fun _ _ _ h=>h) (Or.inl ⟨by rfl,?_⟩) bd ?_
   ·intro w hSw
    go_simp
    exact HW5.out
   try simp only [Act.put,List.setIfInBounds_toArray,List.set_cons_zero,List.set_cons_succ]
   refine wpAnyH_take (i:=4) (oi:=⟨some 21,.fieldAddr 111 (.tmp 5) 0,0,"ref.go:618",#[],none⟩) (v:=?_) rfl (by kernel_rfl) (by kernel_rfl) (by kernel_rfl) (fun _ _ _ h=>h) (Or.inl ⟨by rfl,?_⟩) bd ?_
   rotate_left
   ·intro w hSw
    go_simp
    try with_reducible rfl
   try simp only [Act.put,List.setIfInBounds_toArray,List.set_cons_zero,List.set_cons_succ]
   refine wpAnyH_take (i:=5) (oi:=⟨some 22,.load 3 (.tmp 21),3,"ref.go:618",#[⟨4,.data⟩],none⟩) (v:=?_) rfl (by kernel_rfl) (by kernel_rfl) (by kernel_rfl) (fun _ _ _ h=>h) (Or.inl ⟨by rfl,?_⟩) bd ?_
   rotate_left
   ·intro w hSw
    have k0:=hSw.cell 0
    have k1:=hSw.cell 1
    simp only [List.getElem?_cons_zero,List.getElem?_cons_succ] at k0 k1
    go_simp
    try with_reducible rfl
   try simp only [Act.put,List.setIfInBounds_toArray,List.set_cons_zero,List.set_cons_succ]
   refine wpAnyH_take (i:=6) (oi:=⟨some 23,.binOp .shr 3 (.tmp 22) (.const (.int .u64 8)) 82,3,"ref.go:618",#[⟨5,.data⟩],none⟩) (v:=.int .i64 0) rfl (by kernel_rfl) (by kernel_rfl) (by kernel_rfl) (fun _ _ _ h=>h) (Or.inl ⟨by rfl,?_⟩) bd ?_
   ·intro w hSw
    go_simp
    exact HS8.out
   try simp only [Act.put,List.setIfInBounds_toArray,List.set_cons_zero,List.set_cons_succ]
   refine wpAnyH_take (i:=7) (oi:=⟨some 24,.convert 3 5 (.tmp 23),5,"ref.go:618",#[⟨6,.data⟩],none⟩) (v:=.int .u8 0) rfl (by kernel_rfl) (by kernel_rfl) (by kernel_rfl) (fun _ _ _ h=>h) (Or.inl ⟨by rfl,?_⟩) bd ?_
   ·intro w hSw
    go_simp
    exact HW0.out
   try simp only [Act.put,List.setIfInBounds_toArray,List.set_cons_zero,List.set_cons_succ]
   refine wpAnyH_take (i:=10) (oi:=⟨some 27,.fieldAddr 111 (.tmp 5) 1,0,"ref.go:618",#[],none⟩) (v:=?_) rfl (by kernel_rfl) (by kernel_rfl) (by kernel_rfl) (fun _ _ _ h=>h) (Or.inl ⟨by rfl,?_⟩) bd ?_
   rotate_left
   ·intro w hSw
    go_simp
    try with_reducible rfl
   try simp only [Act.put,List.setIfInBounds_toArray,List.set_cons_zero,List.set_cons_succ]
   refine wpAnyH_take (i:=11) (oi:=⟨some 28,.load 31 (.tmp 27),31,"ref.go:618",#[⟨10,.data⟩],none⟩) (v:=?_) rfl (by kernel_rfl) (by kernel_rfl) (by kernel_rfl) (fun _ _ _ h=>h) (Or.inl ⟨by rfl,?_⟩) bd ?_
   rotate_left
   ·intro w hSw
    have k0:=hSw.cell 0
    have k1:=hSw.cell 1
    simp only [List.getElem?_cons_zero,List.getElem?_cons_succ] at k0 k1
    go_simp
    try with_reducible rfl
   try simp only [Act.put,List.setIfInBounds_toArray,List.set_cons_zero,List.set_cons_succ]
   have b0:Below W.heap.size W W.drew:=⟨rfl,rfl,rfl,Nat.le_refl _,fun _ _=>rfl⟩
   have HX0:=dq bd
   have HR0:Hid (Bys W.drew ta tc lk):=dq (Row.below HRW.out b0)
   have HB0:=dq (HBX.out.below b0)
   have HGW:Hid (Gr w none W.drew ta):=dq ⟨HGW.out.kept.drew,HGW.out.new⟩
   clear b0 bd HRW HBX
   generalize W.drew=V0 at HX0 HR0 HB0 HGW ⊢
   have HG0:Hid (Gr V0 ta V0 ta):=dq (Gr.refl _ _)
   have HN0:Hid (lk.length=N∧N≤97+101*k+0):=HN
   clear HN
   refine wpAnyH_ready (rs:=[8,13]) (by kernel_rfl) (by simp) ?_
   refine AllReadyH.cons (o:=⟨some 25,.buildSlice 165 3 #[(0,.const (.int .u8 47)),(1,.tmp 20),(2,.tmp 24)],165,"ref.go:618",#[⟨3,.data⟩,⟨7,.data⟩],none⟩) rfl (fun K hK=>?_) ?_
   ·have bz:=below_alloc V0 (.cells #[.int .u8 47,.int .u8 (jn:Int),.int .u8 0] 5)
    have HR1:Hid (Bys (V0.alloc (.cells #[.int .u8 47,.int .u8 (jn:Int),.int .u8 0] 5)) ta tc lk):=dq (Row.below HR0.out bz)
    have HX1:Hid (Lies (V0.alloc (.cells #[.int .u8 47,.int .u8 (jn:Int),.int .u8 0] 5)) gx 111 [.int .i64 (jn:Int),.slice b u d]):=dq (HX0.out.below bz HX0.out.lt)
    have HB1:Hid (Bag (V0.alloc (.cells #[.int .u8 47,.int .u8 (jn:Int),.int .u8 0] 5)) b d xs):=dq (HB0.out.below bz)
    have HG1:Hid (Gr V0 ta (V0.alloc (.cells #[.int .u8 47,.int .u8 (jn:Int),.int .u8 0] 5)) ta):=dq (HG0.out.alloc _)
    have HN1:=HN0
    have HA1:Hid (Lies (V0.alloc (.cells #[.int .u8 47,.int .u8 (jn:Int),.int .u8 0] 5)) V0.heap.size 5 [.int .u8 47,.int .u8 (jn:Int),.int .u8 0]∧ta≠some ⟨V0.heap.size,0,none⟩):=dq ⟨Lies.new _ _ _,fun e=>Nat.lt_irrefl _ (HR0.out.lt e)⟩
    clear bz HR0 HX0 HB0 HG0
    go_simp
    refine hK.out _ _ HX1.out (fun hHeld=>?_)
    clear hK K hHeld
    try simp only [Act.put,List.setIfInBounds_toArray,List.set_cons_zero,List.set_cons_succ]
    generalize V0.alloc (.cells #[.int .u8 47,.int .u8 (jn:Int),.int .u8 0] 5)=V1 at HR1 HX1 HB1 HG1 HA1 ⊢
    generalize V0.heap.size=ga at HA1 ⊢
    refine wpAnyH_ready (rs:=[9,13]) (by kernel_rfl) (by simp) ?_
    refine AllReadyH.cons (o:=⟨some 26,.call {callee:=.builtin .append,args:=#[.tmp 17,.tmp 25],argTypes:=#[165,165]},165,"ref.go:618",#[⟨0,.data⟩,⟨8,.data⟩],none⟩) rfl (fun K hK=>?_) ?_
    ·obtain ⟨a2,c2,V2,hr2,r2,g2⟩:=zhk 165 ta tc N lk V1 HR1.out HN1.out.1 (by have:=HN1.out.2;omega) [47,UInt8.ofNat jn,0] 3 rfl (by omega) ga [.int .u8 47,.int .u8 (jn:Int),.int .u8 0] HCJ.out HA1.out.1
     have HX2:=dq (g2.lies HX1.out (HR1.out.apart HX1.out (by decide)))
     have HB2:=dq (HR1.out.bag g2 HB1.out)
     have HG2:=dq (HG1.out.trans g2)
     have HR2:=dq r2
     have HN2:Hid ((lk++[47,UInt8.ofNat jn,0]).length=(N+3)∧(N+3)≤97+101*k+3):=dq ⟨by rw [List.length_append,HN1.out.1];rfl,by have:=HN1.out.2;omega⟩
     refine step_append_run _ rfl _ _ _ _ rfl _ _ rfl rfl _ _ hr2 ?_
     clear hr2 r2 g2 HR1 HX1 HB1 HG1 HN1 HA1
     refine hK.out _ _ HX2.out (fun hHeld=>?_)
     clear hK K hHeld
     try simp only [Act.put,List.setIfInBounds_toArray,List.set_cons_zero,List.set_cons_succ]
     refine wpAnyH_ready (rs:=[12,13]) (by kernel_rfl) (by simp) ?_
     refine AllReadyH.cons (o:=⟨some 29,.call {callee:=.value (.func 119),args:=#[.tmp 26,.tmp 28],argTypes:=#[165,31]},165,"ref.go:618",#[⟨9,.data⟩,⟨11,.data⟩,⟨9,.chain⟩],none⟩) rfl (fun K hK=>?_) ?_
     ·have Z3:=zl5 V2 a2 c2 (N+3) (lk++[47,UInt8.ofNat jn,0]) HR2 (dq HN2.out.1) (by have:=HN2.out.2;omega) b d u xs HB2 HU HRX hu12
      go_simp
      refine Z3.mono ?_
      clear Z3
      rintro e V3 ⟨a3,c3,rfl,r3,g3⟩
      have HX3:=dq (g3.lies HX2.out (HR2.out.apart HX2.out (by decide)))
      have HB3:=dq (HR2.out.bag g3 HB2.out)
      have HG3:=dq (HG2.out.trans g3)
      have HR3:=dq r3
      obtain ⟨N3,hN3⟩:∃ N,N=((lk++[47,UInt8.ofNat jn,0])++zaH xs).length:=⟨_,rfl⟩
      have HN3:Hid (((lk++[47,UInt8.ofNat jn,0])++zaH xs).length=N3∧N3≤97+101*k+100):=dq ⟨hN3.symm,by rw [hN3,List.length_append,HN2.out.1];have:=HBL.out;have:=HN2.out.2;omega⟩
      rw [←hN3]
      have hle3:=Row.le r3
      clear hN3 r3 g3 HR2 HX2 HB2 HG2 HN2
      go_wp2_with (fail)
      refine hK.out _ _ HX3.out (fun hHeld=>?_)
      clear hK K hHeld
      try simp only [Act.put,List.setIfInBounds_toArray,List.set_cons_zero,List.set_cons_succ]
      refine wpAnyH_ready (rs:=[13]) (by kernel_rfl) (by simp) ?_
      refine AllReadyH.cons (o:=⟨some 30,.buildSlice 165 1 #[(0,.const (.int .u8 59))],165,"ref.go:618",#[],none⟩) rfl (fun K hK=>?_) AllReadyH.nil
      have bz:=below_alloc V3 (.cells #[.int .u8 59] 5)
      have HR4:Hid (Bys (V3.alloc (.cells #[.int .u8 59] 5)) a3 c3 ((lk++[47,UInt8.ofNat jn,0])++zaH xs)):=dq (Row.below HR3.out bz)
      have HX4:Hid (Lies (V3.alloc (.cells #[.int .u8 59] 5)) gx 111 [.int .i64 (jn:Int),.slice b u d]):=dq (HX3.out.below bz HX3.out.lt)
      have HB4:Hid (Bag (V3.alloc (.cells #[.int .u8 59] 5)) b d xs):=dq (HB3.out.below bz)
      have HG4:Hid (Gr V0 ta (V3.alloc (.cells #[.int .u8 59] 5)) a3):=dq (HG3.out.alloc _)
      have HN4:=HN3
      have HE4:Hid (Lies (V3.alloc (.cells #[.int .u8 59] 5)) V3.heap.size 5 [.int .u8 59]∧a3≠some ⟨V3.heap.size,0,none⟩):=dq ⟨Lies.new _ _ _,fun e=>Nat.lt_irrefl _ (HR3.out.lt e)⟩
      clear bz HR3 HX3 HB3 HG3
      go_simp
      refine hK.out _ _ HX4.out (fun hHeld=>?_)
      clear hK K hHeld
      try simp only [Act.put,List.setIfInBounds_toArray,List.set_cons_zero,List.set_cons_succ]
      generalize V3.alloc (.cells #[.int .u8 59] 5)=V4 at HR4 HX4 HB4 HG4 HE4 ⊢
      generalize V3.heap.size=ge at HE4 ⊢
      refine wpAnyH_ready (rs:=[14]) (by kernel_rfl) (by simp) ?_
      refine AllReadyH.cons (o:=⟨some 31,.call {callee:=.builtin .append,args:=#[.tmp 29,.tmp 30],argTypes:=#[165,165]},165,"ref.go:618",#[⟨12,.data⟩,⟨13,.data⟩,⟨12,.chain⟩],none⟩) rfl (fun K hK=>?_) AllReadyH.nil
      obtain ⟨a5,c5,V5,hr5,r5,g5⟩:=zhk 165 a3 c3 N3 ((lk++[47,UInt8.ofNat jn,0])++zaH xs) V4 HR4.out HN4.out.1 (by have:=HN4.out.2;omega) [59] 1 rfl (by omega) ge [.int .u8 59] rfl HE4.out.1
      have HX5:=dq (g5.lies HX4.out (HR4.out.apart HX4.out (by decide)))
      have HB5:=dq (HR4.out.bag g5 HB4.out)
      have HG5:=dq (HG4.out.trans g5)
      have HR5:=dq r5
      have HN5:Hid ((((lk++[47,UInt8.ofNat jn,0])++zaH xs)++[59]).length=(N3+1)∧(N3+1)≤97+101*k+101):=dq ⟨by rw [List.length_append,HN4.out.1];rfl,by have:=HN4.out.2;omega⟩
      refine step_append_run _ rfl _ _ _ _ rfl _ _ rfl rfl _ _ hr5 ?_
      clear hr5 r5 g5 HR4 HX4 HB4 HG4 HN4 HE4
      refine hK.out _ _ HX5.out (fun hHeld=>?_)
      clear hK K hHeld
      try simp only [Act.put,List.setIfInBounds_toArray,List.set_cons_zero,List.set_cons_succ]
      refine wpAnyH_take (i:=15) (oi:=⟨some 3,.assign (.tmp 31),165,"ref.go:618",#[⟨14,.data⟩,⟨14,.chain⟩,⟨0,.phase⟩,⟨1,.phase⟩,⟨2,.phase⟩,⟨3,.phase⟩,⟨4,.phase⟩,⟨5,.phase⟩,⟨6,.phase⟩,⟨7,.phase⟩,⟨8,.phase⟩,⟨9,.phase⟩,⟨10,.phase⟩,⟨11,.phase⟩,⟨12,.phase⟩,⟨13,.phase⟩,⟨14,.phase⟩],none⟩) (v:=?_) rfl (by kernel_rfl) (by kernel_rfl) (by kernel_rfl) (fun _ _ _ h=>h) (Or.inl ⟨by rfl,?_⟩) HX5.out ?_
      rotate_left
      ·intro w hSw
       go_simp
       try with_reducible rfl
      try simp only [Act.put,List.setIfInBounds_toArray,List.set_cons_zero,List.set_cons_succ]
      refine wpAnyH_done (by kernel_rfl) ?_ _
      go_wp2
      go_roundw
      case rel=>exact ⟨k+1,_,_,_,by omega,by rfl,by go_num,dq (by rw [HFL.out,HIB.out];simpa using HR5.out),dq ⟨by rw [HFL.out,HIB.out,←HN5.out.1];simp,by have:=HN5.out.2;omega⟩,dq (HGW.out.trans HG5.out)⟩
      case measure=>simp [intOf];omega
     refine AllReadyH.cons (o:=⟨some 30,.buildSlice 165 1 #[(0,.const (.int .u8 59))],165,"ref.go:618",#[],none⟩) rfl (fun K hK=>?_) AllReadyH.nil
     have bz:=below_alloc V2 (.cells #[.int .u8 59] 5)
     have HR6:Hid (Bys (V2.alloc (.cells #[.int .u8 59] 5)) a2 c2 (lk++[47,UInt8.ofNat jn,0])):=dq (Row.below HR2.out bz)
     have HX6:Hid (Lies (V2.alloc (.cells #[.int .u8 59] 5)) gx 111 [.int .i64 (jn:Int),.slice b u d]):=dq (HX2.out.below bz HX2.out.lt)
     have HB6:Hid (Bag (V2.alloc (.cells #[.int .u8 59] 5)) b d xs):=dq (HB2.out.below bz)
     have HG6:Hid (Gr V0 ta (V2.alloc (.cells #[.int .u8 59] 5)) a2):=dq (HG2.out.alloc _)
     have HN6:=HN2
     have HE6:Hid (Lies (V2.alloc (.cells #[.int .u8 59] 5)) V2.heap.size 5 [.int .u8 59]∧a2≠some ⟨V2.heap.size,0,none⟩):=dq ⟨Lies.new _ _ _,fun e=>Nat.lt_irrefl _ (HR2.out.lt e)⟩
     clear bz HR2 HX2 HB2 HG2
     go_simp
     refine hK.out _ _ HX6.out (fun hHeld=>?_)
     clear hK K hHeld
     try simp only [Act.put,List.setIfInBounds_toArray,List.set_cons_zero,List.set_cons_succ]
     generalize V2.alloc (.cells #[.int .u8 59] 5)=V6 at HR6 HX6 HB6 HG6 HE6 ⊢
     generalize V2.heap.size=ge at HE6 ⊢
     refine wpAnyH_ready (rs:=[12]) (by kernel_rfl) (by simp) ?_
     refine AllReadyH.cons (o:=⟨some 29,.call {callee:=.value (.func 119),args:=#[.tmp 26,.tmp 28],argTypes:=#[165,31]},165,"ref.go:618",#[⟨9,.data⟩,⟨11,.data⟩,⟨9,.chain⟩],none⟩) rfl (fun K hK=>?_) AllReadyH.nil
     have Z7:=zl5 V6 a2 c2 (N+3) (lk++[47,UInt8.ofNat jn,0]) HR6 (dq HN6.out.1) (by have:=HN6.out.2;omega) b d u xs HB6 HU HRX hu12
     go_simp
     refine Z7.mono ?_
     clear Z7
     rintro e V7 ⟨a7,c7,rfl,r7,g7⟩
     have HX7:=dq (g7.lies HX6.out (HR6.out.apart HX6.out (by decide)))
     have HB7:=dq (HR6.out.bag g7 HB6.out)
     have HG7:=dq (HG6.out.trans g7)
     have HR7:=dq r7
     have HE7:=dq (show Lies _ _ 5 [.int .u8 59]∧_ from ⟨g7.lies HE6.out.1 HE6.out.2,g7.ne HE6.out.1.lt HE6.out.2⟩)
     obtain ⟨N7,hN7⟩:∃ N,N=((lk++[47,UInt8.ofNat jn,0])++zaH xs).length:=⟨_,rfl⟩
     have HN7:Hid (((lk++[47,UInt8.ofNat jn,0])++zaH xs).length=N7∧N7≤97+101*k+100):=dq ⟨hN7.symm,by rw [hN7,List.length_append,HN6.out.1];have:=HBL.out;have:=HN6.out.2;omega⟩
     rw [←hN7]
     have hle7:=Row.le r7
     clear hN7 r7 g7 HR6 HX6 HB6 HG6 HN6 HE6
     go_wp2_with (fail)
     refine hK.out _ _ HX7.out (fun hHeld=>?_)
     clear hK K hHeld
     try simp only [Act.put,List.setIfInBounds_toArray,List.set_cons_zero,List.set_cons_succ]
     refine wpAnyH_ready (rs:=[14]) (by kernel_rfl) (by simp) ?_
     refine AllReadyH.cons (o:=⟨some 31,.call {callee:=.builtin .append,args:=#[.tmp 29,.tmp 30],argTypes:=#[165,165]},165,"ref.go:618",#[⟨12,.data⟩,⟨13,.data⟩,⟨12,.chain⟩],none⟩) rfl (fun K hK=>?_) AllReadyH.nil
     obtain ⟨a8,c8,V8,hr8,r8,g8⟩:=zhk 165 a7 c7 N7 ((lk++[47,UInt8.ofNat jn,0])++zaH xs) V7 HR7.out HN7.out.1 (by have:=HN7.out.2;omega) [59] 1 rfl (by omega) ge [.int .u8 59] rfl HE7.out.1
     have HX8:=dq (g8.lies HX7.out (HR7.out.apart HX7.out (by decide)))
     have HB8:=dq (HR7.out.bag g8 HB7.out)
     have HG8:=dq (HG7.out.trans g8)
     have HR8:=dq r8
     have HN8:Hid ((((lk++[47,UInt8.ofNat jn,0])++zaH xs)++[59]).length=(N7+1)∧(N7+1)≤97+101*k+101):=dq ⟨by rw [List.length_append,HN7.out.1];rfl,by have:=HN7.out.2;omega⟩
     refine step_append_run _ rfl _ _ _ _ rfl _ _ rfl rfl _ _ hr8 ?_
     clear hr8 r8 g8 HR7 HX7 HB7 HG7 HN7 HE7
     refine hK.out _ _ HX8.out (fun hHeld=>?_)
     clear hK K hHeld
     try simp only [Act.put,List.setIfInBounds_toArray,List.set_cons_zero,List.set_cons_succ]
     refine wpAnyH_take (i:=15) (oi:=⟨some 3,.assign (.tmp 31),165,"ref.go:618",#[⟨14,.data⟩,⟨14,.chain⟩,⟨0,.phase⟩,⟨1,.phase⟩,⟨2,.phase⟩,⟨3,.phase⟩,⟨4,.phase⟩,⟨5,.phase⟩,⟨6,.phase⟩,⟨7,.phase⟩,⟨8,.phase⟩,⟨9,.phase⟩,⟨10,.phase⟩,⟨11,.phase⟩,⟨12,.phase⟩,⟨13,.phase⟩,⟨14,.phase⟩],none⟩) (v:=?_) rfl (by kernel_rfl) (by kernel_rfl) (by kernel_rfl) (fun _ _ _ h=>h) (Or.inl ⟨by rfl,?_⟩) HX8.out ?_
     rotate_left
     ·intro w hSw
      go_simp
      try with_reducible rfl
     try simp only [Act.put,List.setIfInBounds_toArray,List.set_cons_zero,List.set_cons_succ]
     refine wpAnyH_done (by kernel_rfl) ?_ _
     go_wp2
     go_roundw
     case rel=>exact ⟨k+1,_,_,_,by omega,by rfl,by go_num,dq (by rw [HFL.out,HIB.out];simpa using HR8.out),dq ⟨by rw [HFL.out,HIB.out,←HN8.out.1];simp,by have:=HN8.out.2;omega⟩,dq (HGW.out.trans HG8.out)⟩
     case measure=>simp [intOf];omega
    refine AllReadyH.cons (o:=⟨some 30,.buildSlice 165 1 #[(0,.const (.int .u8 59))],165,"ref.go:618",#[],none⟩) rfl (fun K hK=>?_) AllReadyH.nil
    have bz:=below_alloc V1 (.cells #[.int .u8 59] 5)
    have HR9:Hid (Bys (V1.alloc (.cells #[.int .u8 59] 5)) ta tc lk):=dq (Row.below HR1.out bz)
    have HX9:Hid (Lies (V1.alloc (.cells #[.int .u8 59] 5)) gx 111 [.int .i64 (jn:Int),.slice b u d]):=dq (HX1.out.below bz HX1.out.lt)
    have HB9:Hid (Bag (V1.alloc (.cells #[.int .u8 59] 5)) b d xs):=dq (HB1.out.below bz)
    have HG9:Hid (Gr V0 ta (V1.alloc (.cells #[.int .u8 59] 5)) ta):=dq (HG1.out.alloc _)
    have HN9:=HN1
    have HA9:=dq (show Lies (V1.alloc (.cells #[.int .u8 59] 5)) ga 5 _∧_ from ⟨HA1.out.1.below bz HA1.out.1.lt,HA1.out.2⟩)
    have HE9:Hid (Lies (V1.alloc (.cells #[.int .u8 59] 5)) V1.heap.size 5 [.int .u8 59]∧ta≠some ⟨V1.heap.size,0,none⟩):=dq ⟨Lies.new _ _ _,fun e=>Nat.lt_irrefl _ (HR1.out.lt e)⟩
    clear bz HR1 HX1 HB1 HG1 HA1
    go_simp
    refine hK.out _ _ HX9.out (fun hHeld=>?_)
    clear hK K hHeld
    try simp only [Act.put,List.setIfInBounds_toArray,List.set_cons_zero,List.set_cons_succ]
    generalize V1.alloc (.cells #[.int .u8 59] 5)=V9 at HR9 HX9 HB9 HG9 HA9 HE9 ⊢
    generalize V1.heap.size=ge at HE9 ⊢
    refine wpAnyH_ready (rs:=[9]) (by kernel_rfl) (by simp) ?_
    refine AllReadyH.cons (o:=⟨some 26,.call {callee:=.builtin .append,args:=#[.tmp 17,.tmp 25],argTypes:=#[165,165]},165,"ref.go:618",#[⟨0,.data⟩,⟨8,.data⟩],none⟩) rfl (fun K hK=>?_) AllReadyH.nil
    obtain ⟨a10,c10,V10,hr10,r10,g10⟩:=zhk 165 ta tc N lk V9 HR9.out HN9.out.1 (by have:=HN9.out.2;omega) [47,UInt8.ofNat jn,0] 3 rfl (by omega) ga [.int .u8 47,.int .u8 (jn:Int),.int .u8 0] HCJ.out HA9.out.1
    have HX10:=dq (g10.lies HX9.out (HR9.out.apart HX9.out (by decide)))
    have HB10:=dq (HR9.out.bag g10 HB9.out)
    have HG10:=dq (HG9.out.trans g10)
    have HR10:=dq r10
    have HE10:=dq (show Lies _ _ 5 [.int .u8 59]∧_ from ⟨g10.lies HE9.out.1 HE9.out.2,g10.ne HE9.out.1.lt HE9.out.2⟩)
    have HN10:Hid ((lk++[47,UInt8.ofNat jn,0]).length=(N+3)∧(N+3)≤97+101*k+3):=dq ⟨by rw [List.length_append,HN9.out.1];rfl,by have:=HN9.out.2;omega⟩
    refine step_append_run _ rfl _ _ _ _ rfl _ _ rfl rfl _ _ hr10 ?_
    clear hr10 r10 g10 HR9 HX9 HB9 HG9 HN9 HA9 HE9
    refine hK.out _ _ HX10.out (fun hHeld=>?_)
    clear hK K hHeld
    try simp only [Act.put,List.setIfInBounds_toArray,List.set_cons_zero,List.set_cons_succ]
    refine wpAnyH_ready (rs:=[12]) (by kernel_rfl) (by simp) ?_
    refine AllReadyH.cons (o:=⟨some 29,.call {callee:=.value (.func 119),args:=#[.tmp 26,.tmp 28],argTypes:=#[165,31]},165,"ref.go:618",#[⟨9,.data⟩,⟨11,.data⟩,⟨9,.chain⟩],none⟩) rfl (fun K hK=>?_) AllReadyH.nil
    have Z11:=zl5 V10 a10 c10 (N+3) (lk++[47,UInt8.ofNat jn,0]) HR10 (dq HN10.out.1) (by have:=HN10.out.2;omega) b d u xs HB10 HU HRX hu12
    go_simp
    refine Z11.mono ?_
    clear Z11
    rintro e V11 ⟨a11,c11,rfl,r11,g11⟩
    have HX11:=dq (g11.lies HX10.out (HR10.out.apart HX10.out (by decide)))
    have HB11:=dq (HR10.out.bag g11 HB10.out)
    have HG11:=dq (HG10.out.trans g11)
    have HR11:=dq r11
    have HE11:=dq (show Lies _ _ 5 [.int .u8 59]∧_ from ⟨g11.lies HE10.out.1 HE10.out.2,g11.ne HE10.out.1.lt HE10.out.2⟩)
    obtain ⟨N11,hN11⟩:∃ N,N=((lk++[47,UInt8.ofNat jn,0])++zaH xs).length:=⟨_,rfl⟩
    have HN11:Hid (((lk++[47,UInt8.ofNat jn,0])++zaH xs).length=N11∧N11≤97+101*k+100):=dq ⟨hN11.symm,by rw [hN11,List.length_append,HN10.out.1];have:=HBL.out;have:=HN10.out.2;omega⟩
    rw [←hN11]
    have hle11:=Row.le r11
    clear hN11 r11 g11 HR10 HX10 HB10 HG10 HN10 HE10
    go_wp2_with (fail)
    refine hK.out _ _ HX11.out (fun hHeld=>?_)
    clear hK K hHeld
    try simp only [Act.put,List.setIfInBounds_toArray,List.set_cons_zero,List.set_cons_succ]
    refine wpAnyH_ready (rs:=[14]) (by kernel_rfl) (by simp) ?_
    refine AllReadyH.cons (o:=⟨some 31,.call {callee:=.builtin .append,args:=#[.tmp 29,.tmp 30],argTypes:=#[165,165]},165,"ref.go:618",#[⟨12,.data⟩,⟨13,.data⟩,⟨12,.chain⟩],none⟩) rfl (fun K hK=>?_) AllReadyH.nil
    obtain ⟨a12,c12,V12,hr12,r12,g12⟩:=zhk 165 a11 c11 N11 ((lk++[47,UInt8.ofNat jn,0])++zaH xs) V11 HR11.out HN11.out.1 (by have:=HN11.out.2;omega) [59] 1 rfl (by omega) ge [.int .u8 59] rfl HE11.out.1
    have HX12:=dq (g12.lies HX11.out (HR11.out.apart HX11.out (by decide)))
    have HB12:=dq (HR11.out.bag g12 HB11.out)
    have HG12:=dq (HG11.out.trans g12)
    have HR12:=dq r12
    have HN12:Hid ((((lk++[47,UInt8.ofNat jn,0])++zaH xs)++[59]).length=(N11+1)∧(N11+1)≤97+101*k+101):=dq ⟨by rw [List.length_append,HN11.out.1];rfl,by have:=HN11.out.2;omega⟩
    refine step_append_run _ rfl _ _ _ _ rfl _ _ rfl rfl _ _ hr12 ?_
    clear hr12 r12 g12 HR11 HX11 HB11 HG11 HN11 HE11
    refine hK.out _ _ HX12.out (fun hHeld=>?_)
    clear hK K hHeld
    try simp only [Act.put,List.setIfInBounds_toArray,List.set_cons_zero,List.set_cons_succ]
    refine wpAnyH_take (i:=15) (oi:=⟨some 3,.assign (.tmp 31),165,"ref.go:618",#[⟨14,.data⟩,⟨14,.chain⟩,⟨0,.phase⟩,⟨1,.phase⟩,⟨2,.phase⟩,⟨3,.phase⟩,⟨4,.phase⟩,⟨5,.phase⟩,⟨6,.phase⟩,⟨7,.phase⟩,⟨8,.phase⟩,⟨9,.phase⟩,⟨10,.phase⟩,⟨11,.phase⟩,⟨12,.phase⟩,⟨13,.phase⟩,⟨14,.phase⟩],none⟩) (v:=?_) rfl (by kernel_rfl) (by kernel_rfl) (by kernel_rfl) (fun _ _ _ h=>h) (Or.inl ⟨by rfl,?_⟩) HX12.out ?_
    rotate_left
    ·intro w hSw
     go_simp
     try with_reducible rfl
    try simp only [Act.put,List.setIfInBounds_toArray,List.set_cons_zero,List.set_cons_succ]
    refine wpAnyH_done (by kernel_rfl) ?_ _
    go_wp2
    go_roundw
    case rel=>exact ⟨k+1,_,_,_,by omega,by rfl,by go_num,dq (by rw [HFL.out,HIB.out];simpa using HR12.out),dq ⟨by rw [HFL.out,HIB.out,←HN12.out.1];simp,by have:=HN12.out.2;omega⟩,dq (HGW.out.trans HG12.out)⟩
    case measure=>simp [intOf];omega
   refine AllReadyH.cons (o:=⟨some 30,.buildSlice 165 1 #[(0,.const (.int .u8 59))],165,"ref.go:618",#[],none⟩) rfl (fun K hK=>?_) AllReadyH.nil
   have bz:=below_alloc V0 (.cells #[.int .u8 59] 5)
   have HR13:Hid (Bys (V0.alloc (.cells #[.int .u8 59] 5)) ta tc lk):=dq (Row.below HR0.out bz)
   have HX13:Hid (Lies (V0.alloc (.cells #[.int .u8 59] 5)) gx 111 [.int .i64 (jn:Int),.slice b u d]):=dq (HX0.out.below bz HX0.out.lt)
   have HB13:Hid (Bag (V0.alloc (.cells #[.int .u8 59] 5)) b d xs):=dq (HB0.out.below bz)
   have HG13:Hid (Gr V0 ta (V0.alloc (.cells #[.int .u8 59] 5)) ta):=dq (HG0.out.alloc _)
   have HN13:=HN0
   have HE13:Hid (Lies (V0.alloc (.cells #[.int .u8 59] 5)) V0.heap.size 5 [.int .u8 59]∧ta≠some ⟨V0.heap.size,0,none⟩):=dq ⟨Lies.new _ _ _,fun e=>Nat.lt_irrefl _ (HR0.out.lt e)⟩
   clear bz HR0 HX0 HB0 HG0
   go_simp
   refine hK.out _ _ HX13.out (fun hHeld=>?_)
   clear hK K hHeld
   try simp only [Act.put,List.setIfInBounds_toArray,List.set_cons_zero,List.set_cons_succ]
   generalize V0.alloc (.cells #[.int .u8 59] 5)=V13 at HR13 HX13 HB13 HG13 HE13 ⊢
   generalize V0.heap.size=ge at HE13 ⊢
   refine wpAnyH_ready (rs:=[8]) (by kernel_rfl) (by simp) ?_
   refine AllReadyH.cons (o:=⟨some 25,.buildSlice 165 3 #[(0,.const (.int .u8 47)),(1,.tmp 20),(2,.tmp 24)],165,"ref.go:618",#[⟨3,.data⟩,⟨7,.data⟩],none⟩) rfl (fun K hK=>?_) AllReadyH.nil
   have bz:=below_alloc V13 (.cells #[.int .u8 47,.int .u8 (jn:Int),.int .u8 0] 5)
   have HR14:Hid (Bys (V13.alloc (.cells #[.int .u8 47,.int .u8 (jn:Int),.int .u8 0] 5)) ta tc lk):=dq (Row.below HR13.out bz)
   have HX14:Hid (Lies (V13.alloc (.cells #[.int .u8 47,.int .u8 (jn:Int),.int .u8 0] 5)) gx 111 [.int .i64 (jn:Int),.slice b u d]):=dq (HX13.out.below bz HX13.out.lt)
   have HB14:Hid (Bag (V13.alloc (.cells #[.int .u8 47,.int .u8 (jn:Int),.int .u8 0] 5)) b d xs):=dq (HB13.out.below bz)
   have HG14:Hid (Gr V0 ta (V13.alloc (.cells #[.int .u8 47,.int .u8 (jn:Int),.int .u8 0] 5)) ta):=dq (HG13.out.alloc _)
   have HN14:=HN13
   have HA14:Hid (Lies (V13.alloc (.cells #[.int .u8 47,.int .u8 (jn:Int),.int .u8 0] 5)) V13.heap.size 5 [.int .u8 47,.int .u8 (jn:Int),.int .u8 0]∧ta≠some ⟨V13.heap.size,0,none⟩):=dq ⟨Lies.new _ _ _,fun e=>Nat.lt_irrefl _ (HR13.out.lt e)⟩
   have HE14:=dq (show Lies (V13.alloc (.cells #[.int .u8 47,.int .u8 (jn:Int),.int .u8 0] 5)) ge 5 _∧_ from ⟨HE13.out.1.below bz HE13.out.1.lt,HE13.out.2⟩)
   clear bz HR13 HX13 HB13 HG13 HE13
   go_simp
   refine hK.out _ _ HX14.out (fun hHeld=>?_)
   clear hK K hHeld
   try simp only [Act.put,List.setIfInBounds_toArray,List.set_cons_zero,List.set_cons_succ]
   generalize V13.alloc (.cells #[.int .u8 47,.int .u8 (jn:Int),.int .u8 0] 5)=V14 at HR14 HX14 HB14 HG14 HA14 HE14 ⊢
   generalize V13.heap.size=ga at HA14 ⊢
   refine wpAnyH_ready (rs:=[9]) (by kernel_rfl) (by simp) ?_
   refine AllReadyH.cons (o:=⟨some 26,.call {callee:=.builtin .append,args:=#[.tmp 17,.tmp 25],argTypes:=#[165,165]},165,"ref.go:618",#[⟨0,.data⟩,⟨8,.data⟩],none⟩) rfl (fun K hK=>?_) AllReadyH.nil
   obtain ⟨a15,c15,V15,hr15,r15,g15⟩:=zhk 165 ta tc N lk V14 HR14.out HN14.out.1 (by have:=HN14.out.2;omega) [47,UInt8.ofNat jn,0] 3 rfl (by omega) ga [.int .u8 47,.int .u8 (jn:Int),.int .u8 0] HCJ.out HA14.out.1
   have HX15:=dq (g15.lies HX14.out (HR14.out.apart HX14.out (by decide)))
   have HB15:=dq (HR14.out.bag g15 HB14.out)
   have HG15:=dq (HG14.out.trans g15)
   have HR15:=dq r15
   have HE15:=dq (show Lies _ _ 5 [.int .u8 59]∧_ from ⟨g15.lies HE14.out.1 HE14.out.2,g15.ne HE14.out.1.lt HE14.out.2⟩)
   have HN15:Hid ((lk++[47,UInt8.ofNat jn,0]).length=(N+3)∧(N+3)≤97+101*k+3):=dq ⟨by rw [List.length_append,HN14.out.1];rfl,by have:=HN14.out.2;omega⟩
   refine step_append_run _ rfl _ _ _ _ rfl _ _ rfl rfl _ _ hr15 ?_
   clear hr15 r15 g15 HR14 HX14 HB14 HG14 HN14 HA14 HE14
   refine hK.out _ _ HX15.out (fun hHeld=>?_)
   clear hK K hHeld
   try simp only [Act.put,List.setIfInBounds_toArray,List.set_cons_zero,List.set_cons_succ]
   refine wpAnyH_ready (rs:=[12]) (by kernel_rfl) (by simp) ?_
   refine AllReadyH.cons (o:=⟨some 29,.call {callee:=.value (.func 119),args:=#[.tmp 26,.tmp 28],argTypes:=#[165,31]},165,"ref.go:618",#[⟨9,.data⟩,⟨11,.data⟩,⟨9,.chain⟩],none⟩) rfl (fun K hK=>?_) AllReadyH.nil
   have Z16:=zl5 V15 a15 c15 (N+3) (lk++[47,UInt8.ofNat jn,0]) HR15 (dq HN15.out.1) (by have:=HN15.out.2;omega) b d u xs HB15 HU HRX hu12
   go_simp
   refine Z16.mono ?_
   clear Z16
   rintro e V16 ⟨a16,c16,rfl,r16,g16⟩
   have HX16:=dq (g16.lies HX15.out (HR15.out.apart HX15.out (by decide)))
   have HB16:=dq (HR15.out.bag g16 HB15.out)
   have HG16:=dq (HG15.out.trans g16)
   have HR16:=dq r16
   have HE16:=dq (show Lies _ _ 5 [.int .u8 59]∧_ from ⟨g16.lies HE15.out.1 HE15.out.2,g16.ne HE15.out.1.lt HE15.out.2⟩)
   obtain ⟨N16,hN16⟩:∃ N,N=((lk++[47,UInt8.ofNat jn,0])++zaH xs).length:=⟨_,rfl⟩
   have HN16:Hid (((lk++[47,UInt8.ofNat jn,0])++zaH xs).length=N16∧N16≤97+101*k+100):=dq ⟨hN16.symm,by rw [hN16,List.length_append,HN15.out.1];have:=HBL.out;have:=HN15.out.2;omega⟩
   rw [←hN16]
   have hle16:=Row.le r16
   clear hN16 r16 g16 HR15 HX15 HB15 HG15 HN15 HE15
   go_wp2_with (fail)
   refine hK.out _ _ HX16.out (fun hHeld=>?_)
   clear hK K hHeld
   try simp only [Act.put,List.setIfInBounds_toArray,List.set_cons_zero,List.set_cons_succ]
   refine wpAnyH_ready (rs:=[14]) (by kernel_rfl) (by simp) ?_
   refine AllReadyH.cons (o:=⟨some 31,.call {callee:=.builtin .append,args:=#[.tmp 29,.tmp 30],argTypes:=#[165,165]},165,"ref.go:618",#[⟨12,.data⟩,⟨13,.data⟩,⟨12,.chain⟩],none⟩) rfl (fun K hK=>?_) AllReadyH.nil
   obtain ⟨a17,c17,V17,hr17,r17,g17⟩:=zhk 165 a16 c16 N16 ((lk++[47,UInt8.ofNat jn,0])++zaH xs) V16 HR16.out HN16.out.1 (by have:=HN16.out.2;omega) [59] 1 rfl (by omega) ge [.int .u8 59] rfl HE16.out.1
   have HX17:=dq (g17.lies HX16.out (HR16.out.apart HX16.out (by decide)))
   have HB17:=dq (HR16.out.bag g17 HB16.out)
   have HG17:=dq (HG16.out.trans g17)
   have HR17:=dq r17
   have HN17:Hid ((((lk++[47,UInt8.ofNat jn,0])++zaH xs)++[59]).length=(N16+1)∧(N16+1)≤97+101*k+101):=dq ⟨by rw [List.length_append,HN16.out.1];rfl,by have:=HN16.out.2;omega⟩
   refine step_append_run _ rfl _ _ _ _ rfl _ _ rfl rfl _ _ hr17 ?_
   clear hr17 r17 g17 HR16 HX16 HB16 HG16 HN16 HE16
   refine hK.out _ _ HX17.out (fun hHeld=>?_)
   clear hK K hHeld
   try simp only [Act.put,List.setIfInBounds_toArray,List.set_cons_zero,List.set_cons_succ]
   refine wpAnyH_take (i:=15) (oi:=⟨some 3,.assign (.tmp 31),165,"ref.go:618",#[⟨14,.data⟩,⟨14,.chain⟩,⟨0,.phase⟩,⟨1,.phase⟩,⟨2,.phase⟩,⟨3,.phase⟩,⟨4,.phase⟩,⟨5,.phase⟩,⟨6,.phase⟩,⟨7,.phase⟩,⟨8,.phase⟩,⟨9,.phase⟩,⟨10,.phase⟩,⟨11,.phase⟩,⟨12,.phase⟩,⟨13,.phase⟩,⟨14,.phase⟩],none⟩) (v:=?_) rfl (by kernel_rfl) (by kernel_rfl) (by kernel_rfl) (fun _ _ _ h=>h) (Or.inl ⟨by rfl,?_⟩) HX17.out ?_
   rotate_left
   ·intro w hSw
    go_simp
    try with_reducible rfl
   try simp only [Act.put,List.setIfInBounds_toArray,List.set_cons_zero,List.set_cons_succ]
   refine wpAnyH_done (by kernel_rfl) ?_ _
   go_wp2
   go_roundw
   case rel=>exact ⟨k+1,_,_,_,by omega,by rfl,by go_num,dq (by rw [HFL.out,HIB.out];simpa using HR17.out),dq ⟨by rw [HFL.out,HIB.out,←HN17.out.1];simp,by have:=HN17.out.2;omega⟩,dq (HGW.out.trans HG17.out)⟩
   case measure=>simp [intOf];omega
  ·obtain rfl:k=m:=by omega
   have ek:textK cs l k=textB cs l:=by
    unfold textK textB
    rw [←HM.out,List.take_length]
   rw [ek] at HR HN
   have hB:=HG.out.kept.below (B:=w.heap.size) (fun g e=>by cases e) (Nat.le_refl _)
   have HBF:=dq hB
   have hne:textB cs l≠[]:=by
    intro e
    have:=congrArg List.length e
    unfold textB zaH at this
    simp at this
   have hF:∃ g,ta=some ⟨g,0,none⟩∧∀ j (hj:j<(textB cs l).length),wr.cell? ((⟨g,0,none⟩:Addr).add j)=some (.int .u8 (((textB cs l)[j]).toNat:Int)):=by
    rcases HR.out with ⟨_,_,h⟩ | ⟨g,sp,h1,_,_,L⟩
    ·exact absurd (by simpa [Lib.byteCells] using h) hne
    ·refine ⟨g,h1,fun j hj=>?_⟩
     have:=zfW (j:=j) (v:=.int .u8 (((textB cs l)[j]).toNat:Int)) L (by simp [Lib.byteCells,hj])
     rw [Addr.add_lit]
     exact this
   obtain ⟨g,rfl,hcell⟩:=hF
   have hconv:=run_convert_bytes_back (P:=Tryz.prog) wr 165 9 5 ⟨g,0,none⟩ tc (textB cs l) Tryz.underlying165 Tryz.underlying5 Tryz.underlying9 hcell
   rw [HN.out.1] at hconv
   clear hcell hB
   go_wp2
   go_ret
   exact ⟨rfl,HBF.out⟩
end Go.Proofs.YtmnkjekjknhhjaaGreatDoor
namespace Go.Proofs.YtmnkjekjknhhjaaGreatDoor
open Go.ChangeShapes Go.WideShapes Go.ChangeAt Go.RowKit
def zoZ (xs:List Int) (k p D:Nat):Prop:=(∀ t,t<k→xs.getD t 0/2 ^ D=0)∧(0<D→∃ t,t<p∧xs.getD t 0/2 ^ (D-1)≠0)
theorem zqG (xs:List Int):zoZ xs 0 0 0:=⟨fun _ h=>absurd h (Nat.not_lt_zero _),fun h=>absurd h (Nat.lt_irrefl _)⟩
theorem ztP {xs:List Int} (hr:zaa xs=true) {k D:Nat} (h:zoZ xs k (k+1) D) (h0:0<xs.getD k 0/2 ^ D):zoZ xs k (k+1) (D+1)∧D+1≤61:=by
 refine ⟨⟨fun t ht=>zdv (zae hr t).1 (h.1 t ht) (Nat.le_succ D),fun _=>⟨k,Nat.lt_succ_self k,?_⟩⟩,?_⟩
 ·rw [Nat.add_sub_cancel];omega
 ·by_cases hD:D+1≤61
  ·exact hD
  ·exfalso
   have hv:=zae hr k
   have e1:xs.getD k 0/2 ^ 61=0:=Int.ediv_eq_zero_of_lt hv.1 (by omega)
   have:=zdv (D:=61) (E:=D) hv.1 e1 (by omega)
   omega
theorem ztQ {xs:List Int} {k D:Nat} (h:zoZ xs k (k+1) D) (h0:xs.getD k 0/2 ^ D=0):zoZ xs (k+1) (k+1) D:=
 ⟨fun t ht=>by
  by_cases e:t=k
  ·subst e;exact h0
  ·exact h.1 t (by omega),h.2⟩
theorem zqH {xs:List Int} {k D:Nat} (h:zoZ xs k k D):zoZ xs k (k+1) D:=⟨h.1,fun h0=>by
 obtain ⟨t,ht,e⟩:=h.2 h0
 exact ⟨t,by omega,e⟩⟩
theorem zr2 {xs:List Int} {D:Nat} (h:zoZ xs xs.length xs.length D):ztL xs D:=
 ⟨fun t=>by
  by_cases ht:t<xs.length
  ·exact h.1 t ht
  ·have:xs.getD t 0=0:=by simp [List.getD,List.getElem?_eq_none (Nat.le_of_not_lt ht)]
   rw [this];simp,fun h0=>by
  obtain ⟨t,_,e⟩:=h.2 h0
  exact ⟨t,e⟩⟩
def ztR (mp:Option Addr) (r:Bool×Int×Mr) (w:World) (e:Ending) (w':World):Prop:=
 e=.returned (.tuple #[.bool r.1,.int .i64 r.2.1])∧MrAt w' 41 mp r.2.2∧MK mp w w'
def zuH (mp:Option Addr) (M:Mr) (s:List Lin) (xs:List Int) (w:World) (e:Ending) (w':World):Prop:=
 (zaa xs=false∧ztR mp (false,1,M) w e w')∨∃ D,D≤61∧zaa xs=true∧ztL xs D∧ztR mp (zua M s xs D) w e w'
theorem mtR:MT 41:=by unfold MT;decide
theorem zqI {w w':World} {mp:Option Addr} {M:Mr} (h:MrAt w 41 mp M) (k:MK mp w w') {a:Option Addr} {c:Nat} {xs:List Int} (r:Bag w a c xs):Bag w' a c xs:=
 r.kept k (fun _ e=>zaV h (by decide) r e)
set_option maxRecDepth 100000 in
set_option maxHeartbeats 4000000 in
theorem zr3 (mp sa wa:Option Addr) (sc wc:Nat) (M:Mr) (s:List Lin) (xs:List Int) (w:World) (HMM0:MrAt w 41 mp M) (R0:Lins w sa sc s) (R:Bag w wa wc xs) (hs:Thin s) :
  Calls Tryz.prog 16 #[.pointer mp,.slice sa s.length sc,.slice wa xs.length wc] w (zuH mp M s xs w):=by
 have hle:=R.le
 have hle0:=R0.le
 have HT:=dq hs
 have HR:=dq R
 have HRS:=dq R0
 have HMM:=dq HMM0
 have Z0:=zaC sa sc s w R0
 rw [zan.2 HT.out.rise] at Z0
 have Z1:=zaS wa wc xs
 generalize hn:xs.length=n at hle Z1 ⊢
 generalize hm:s.length=m at hle0 Z0 ⊢
 have HN:=dq hn
 have HM:=dq hm
 have HZ0:=dq Z0
 have HZ1:=dq Z1
 clear R0 R HMM0 hs hn hm Z0 Z1
 go_enter Tryz.func16,Tryz.ntmps16
 go_wp2_with (fail)
 refine HZ0.out.mono ?_
 clear HZ0
 rintro e w1 ⟨rfl,b1⟩
 have HB1:=dq b1
 have HZ2:=dq (HZ1.out w1 (HR.out.below b1))
 clear b1 HZ1
 generalize hv:zaa xs=v at HZ2
 have HV:=dq hv
 clear hv
 go_wp2_with (fail)
 refine HZ2.out.mono ?_
 clear HZ2
 rintro e _ ⟨rfl,rfl⟩
 cases v with
 | false=>
  have HF:Hid (zuH mp M s xs w (.returned (.tuple #[.bool false,.int .i64 1])) w1):=dq (.inl ⟨HV.out,rfl,HMM.out.below HB1.out,Kept.of_below HB1.out⟩)
  go_wp2
  exact bodyPost_ret (v:=.tuple #[.bool false,.int .i64 1]) (by simp [results,Tryz.results16,go_sem]) rfl HF.out
 | true=>
  go_wp2
  go_loopw [8,25] (fun dg i wr=>∃ (k D:Nat),k≤n∧D≤61∧dg=.int .i64 D∧i=.int .i64 k∧w1=wr∧Hid (zoZ xs k k D)) (fun _ i _=>n-(intOf i).toNat)
  case atStart=>exact ⟨0,0,Nat.zero_le _,by omega,rfl,rfl,rfl,dq (zqG _)⟩
  case round=>
   obtain ⟨k,D,hk,hD,rfl,rfl,rfl,HK⟩:=hrel
   by_cases hlt:k<n
   ·obtain ⟨g,rfl,hc⟩:=(HR.out.below HB1.out).at (k:=k) (by rw [HN.out];exact hlt)
    have i1:(0:Int)≤(k:Int):=by omega
    have i2:(k:Int)<(n:Int):=by omega
    have hb:=zae HV.out k
    have HUP:=dq (fun E (h:zoZ xs k (k+1) E)=>ztP HV.out h)
    have HON:=dq (fun E (h:zoZ xs k (k+1) E)=>ztQ h)
    have HK2:=dq (zqH HK.out)
    generalize xs.getD k 0=x at hc hb HUP HON
    clear HK
    go_wp2
    go_loopw [8] (fun dg wr=>∃ (E:Nat),E≤61∧dg=.int .i64 E∧w1=wr∧Hid (zoZ xs k (k+1) E)) (fun dg _=>62-(intOf dg).toNat)
    case atStart=>exact ⟨D,hD,rfl,rfl,HK2⟩
    case round=>
     clear HK2
     obtain ⟨E,hE,rfl,rfl,HK3⟩:=hrel
     by_cases h0:0<x/2 ^ E
     ·obtain ⟨hk4,hE4⟩:=HUP.out E HK3.out h0
      have HK4:=dq hk4
      clear hk4
      go_wp2
      go_roundw
      case rel=>exact ⟨E+1,hE4,by go_num,by first | rfl | trivial,HK4⟩
      case measure=>simp [intOf];omega
     ·have HK4:=dq (HON.out E HK3.out (by
       have:=Int.ediv_nonneg hb.1 (show (0:Int)≤2 ^ E from Int.pow_nonneg (by decide))
       omega))
      go_wp2
      go_roundw
      case rel=>exact ⟨k+1,E,by omega,hE,rfl,by go_num,by first | rfl | trivial,HK4⟩
      case measure=>simp [intOf];omega
   ·obtain rfl:k=n:=by omega
    have HDP:Hid (ztL xs D):=dq (zr2 (by rw [HN.out];exact HK.out))
    have Z:=zlI sa sc s w1 (HRS.out.below HB1.out) (by have:=HT.out.few;omega)
    rw [HM.out] at Z
    have HZ:=dq Z
    clear Z HK
    go_wp2_with (fail)
    refine HZ.out.mono ?_
    clear HZ
    rintro e w2 ⟨a2,c2,rfl,r2,f2,b2⟩
    have HB2:=dq (HB1.out.trans (b2.mono HB1.out.size))
    have HI2:=dq r2
    have HGO:Hid (zua M s xs D=if (zav s xs D 0 (startL s) M).2.1=0 then (finalL (zav s xs D 0 (startL s) M).1,(zav s xs D 0 (startL s) M).2) else (false,(zav s xs D 0 (startL s) M).2)):=dq rfl
    have HST:=dq (zdW HT.out)
    have HM2:=dq (HMM.out.below HB2.out)
    have HK2:Hid (MK mp w w2):=dq (Kept.of_below HB2.out)
    have hle2:=r2.le
    obtain ⟨RR,hRR⟩:∃ RR,RR=zav s xs D 0 (startL s) M:=⟨_,rfl⟩
    rw [←hRR] at HGO
    have HRR:Hid (RR=zav s xs (D-0) 0 (startL s) M):=dq hRR
    clear hRR
    generalize startL s=l0 at HI2 HST hle2 HRR ⊢
    generalize hq:l0.length=q0 at hle2 ⊢
    have HQ0:=dq hq
    clear hq r2 f2 b2 HB2 HB1
    go_wp2
    go_loopw [11,12] (fun lv dv wr=>∃ (d q:Nat) (la:Option Addr) (lc:Nat) (l:List It) (Mi:Mr),d≤D∧lv=.slice la q lc∧dv=.int .i64 d∧Hid (l.length=q)∧Hid (Its wr la lc l)∧Hid (MrAt wr 41 mp Mi)∧Hid (MK mp w wr)∧Hid (zgt s l)∧Hid (RR=zav s xs (D-d) d l Mi)) (fun _ dv _=>D-(intOf dv).toNat)
    case atStart=>exact ⟨0,q0,a2,c2,l0,M,Nat.zero_le _,rfl,rfl,HQ0,HI2,HM2,HK2,HST,HRR⟩
    case round=>
     clear HQ0 HI2 HM2 HK2 HST HRR hle2
     obtain ⟨d,q,la,lc,l,Mi,hd,rfl,rfl,HQ,HI,HMi,HK,HST,HRR⟩:=hrel
     by_cases hdd:d<D
     ·have i3:(0:Int)≤(d:Int):=by omega
      have i4:(d:Int)<(D:Int):=by omega
      have hle3:=HI.out.le
      rw [HQ.out] at hle3
      have HWB:=dq (zqI HMM.out HK.out HR.out)
      have Z:=zoB wa wc xs (d:Int) wr HWB.out
      rw [HN.out] at Z
      have HZ:=dq Z
      have HLS:=dq (Lins.mk HMM.out mtR HK.out HRS.out)
      have HCO:=dq (ze7 HT.out HST.out.1 HST.out.2)
      have HNO:=dq (fun h=>ziA (s:=s) (w:=xs) (k:=D-d-1) (d:=d) (l:=l) (M:=Mi) h)
      have HYE:=dq (fun h=>zbW (s:=s) (w:=xs) (k:=D-d-1) (d:=d) (l:=l) (M:=Mi) h)
      rw [show D-d-1+1=D-d by omega] at HNO HYE
      have HSO:=dq (zkS HT.out HST.out (letterN xs (d:Int)) Mi)
      clear Z
      go_wp2_with (fail)
      refine HZ.out.mono ?_
      clear HZ
      rintro e w5 ⟨rfl,b5⟩
      generalize letterN xs (d:Int)=ln at HNO HYE HSO ⊢
      have HK5:=dq (HK.out.then b5)
      have HM5:=dq (HMi.out.below b5)
      have Z:=zlM mp sa la sc lc Mi s l ln w5 HM5.out (HLS.out.below b5) (HI.out.below b5) HCO.out
      rw [HM.out,HQ.out] at Z
      have HZ:=dq Z
      clear Z b5 HMi HI HLS HWB HCO
      generalize nextM Mi s l ln=r at HZ HNO HYE HSO
      obtain ⟨y,ye,My⟩:=r
      generalize hyl:y.length=yl
      have HYL:=dq hyl
      clear hyl
      go_wp2_with (fail)
      refine HZ.out.mono ?_
      clear HZ
      rintro e w6 ⟨a6,c6,rfl,I6,_,m6,k6⟩
      dsimp only at I6 m6 HNO HYE HSO ⊢
      have HI6:=dq I6
      have HM6:=dq m6
      have HK6:=dq (HK5.out.and k6)
      have hle6:=I6.le
      rw [HYL.out] at hle6
      rw [HYL.out]
      clear I6 m6 k6 HK5 HM5 HK
      by_cases h0:ye=0
      ·subst h0
       have HS6:=dq (HSO.out rfl)
       have HR6:Hid (RR=zav s xs (D-(d+1)) (d+1) y My):=dq (by rw [HRR.out,HYE.out rfl,show D-d-1=D-(d+1) by omega])
       go_wp2
       go_roundw
       case rel=>exact ⟨d+1,yl,a6,c6,y,My,by omega,rfl,by go_num,HYL,HI6,HM6,HK6,HS6,HR6⟩
       case measure=>simp [intOf];omega
      ·have HF:Hid (zuH mp M s xs w (.returned (.tuple #[.bool false,.int .i64 ye])) w6):=dq (.inr ⟨D,hD,HV.out,HDP.out,by
        have e:=HNO.out h0
        rw [←HRR.out] at e
        have e2:=HGO.out
        rw [e,if_neg h0] at e2
        rw [e2]
        exact ⟨rfl,HM6.out,HK6.out⟩⟩)
       go_wp2
       exact bodyPost_ret (v:=.tuple #[.bool false,.int .i64 ye]) (by simp [results,Tryz.results16,go_sem]) rfl HF.out
     ·obtain rfl:d=D:=by omega
      have Z:=zlH la lc l wr HI.out
      rw [HQ.out] at Z
      have HZ:=dq Z
      clear Z
      have hle3:=HI.out.le
      rw [HQ.out] at hle3
      go_wp2_with (fail)
      refine HZ.out.mono ?_
      clear HZ
      rintro e w5 ⟨rfl,b5⟩
      have HF:Hid (zuH mp M s xs w (.returned (.tuple #[.bool (finalL l),.int .i64 0])) w5):=dq (.inr ⟨d,hD,HV.out,HDP.out,by
       have e:=HRR.out
       rw [Nat.sub_self,zdX] at e
       have e2:=HGO.out
       rw [e,if_pos rfl] at e2
       rw [e2]
       exact ⟨rfl,HMi.out.below b5,HK.out.then b5⟩⟩)
      clear b5
      go_wp2
      exact bodyPost_ret (v:=.tuple #[.bool (finalL l),.int .i64 0]) (by simp [results,Tryz.results16,go_sem]) rfl HF.out
end Go.Proofs.YtmnkjekjknhhjaaGreatDoor
namespace Go.Proofs.YtmnkjekjknhhjaaGreatDoor
open Go.ChangeShapes Go.WideShapes Go.ChangeAt Go.RowKit
structure Pb where
 ca:Option Addr
 cc:Nat
 la:Option Addr
 lc:Nat
 wa:Option Addr
 wc:Nat
 x:Pr
def Pb.cells (l:Pb):List Value:=[.slice l.ca l.x.c.length l.cc,.slice l.la l.x.l.length l.lc,.slice l.wa l.x.w.length l.wc,.int .i64 (l.x.n:Int)]
def zfT (ls:List Pb):List Value:=ls.flatMap Pb.cells
def prs (ls:List Pb):List Pr:=ls.map Pb.x
theorem zkT (ls:List Pb):(prs ls).length=ls.length:=List.length_map ..
theorem zqJ (a b:List Pb):zfT (a++b)=zfT a++zfT b:=by simp [zfT]
theorem ziG:∀ (ls:List Pb) (k:Nat) (hk:k<ls.length) (i:Nat),i<4→(zfT ls)[k*4+i]? = (ls[k]).cells[i]?
 | [],_,hk,_,_=>by simp at hk
 | l::r,0,_,i,hi=>by
  have e:zfT (l::r)=l.cells++zfT r:=rfl
  rw [e,List.getElem?_append_left (by show 0*4+i<4;omega)]
  simp
 | l::r,k+1,hk,i,hi=>by
  have e:zfT (l::r)=l.cells++zfT r:=rfl
  rw [e,List.getElem?_append_right (by show 4≤_;omega)]
  have:=ziG r k (by simpa using hk) i hi
  have e2:(k+1)*4+i-l.cells.length=k*4+i:=by show (k+1)*4+i-4=_;omega
  rw [e2,this]
  simp
def RowP (w:World) (a:Option Addr) (c n:Nat) (xs:List Value):Prop:=
 xs.length=n*4∧((a=none∧c=0∧n=0)∨∃ g sp,a=some ⟨g,0,none⟩∧c*4=xs.length+sp.length∧n≤c∧c≤9223372036854775807∧Lies w g 132 (xs++sp))
section
variable {w w':World} {a:Option Addr} {c n:Nat} {xs:List Value}
theorem RowP.nil (w:World):RowP w none 0 0 []:=⟨rfl,.inl ⟨rfl,rfl,rfl⟩⟩
theorem RowP.kept {X:Nat→Prop} (h:RowP w a c n xs) (k:Kept X w w') (hx:∀ g,a=some ⟨g,0,none⟩→¬X g):RowP w' a c n xs:=by
 obtain ⟨h0,h⟩:=h
 rcases h with h | ⟨g,sp,e,h1,h2,h3,l⟩
 ·exact ⟨h0,.inl h⟩
 ·exact ⟨h0,.inr ⟨g,sp,e,h1,h2,h3,l.kept k (hx g e)⟩⟩
theorem RowP.below (h:RowP w a c n xs) (k:Below w.heap.size w w'):RowP w' a c n xs:=h.kept (X:=fun _=>False) (Kept.of_below k) (fun _ _ h=>h)
theorem RowP.lt (h:RowP w a c n xs) {g:Nat} (e:a=some ⟨g,0,none⟩):g<w.heap.size:=by
 obtain ⟨_,h⟩:=h
 rcases h with ⟨h,_⟩ | ⟨g',sp,e',_,_,_,l⟩
 ·rw [h] at e;cases e
 ·rw [e'] at e;injection e with e;injection e with e;subst e;exact l.lt
theorem RowP.le (h:RowP w a c n xs):n≤c∧c≤9223372036854775807:=by
 obtain ⟨_,h⟩:=h
 rcases h with ⟨_,h1,h2⟩ | ⟨_,_,_,_,h1,h2,_⟩
 ·omega
 ·exact ⟨h1,h2⟩
theorem RowP.form (h:RowP w a c n xs):a=none∨∃ g,a=some ⟨g,0,none⟩:=by
 obtain ⟨_,h⟩:=h
 rcases h with ⟨e,_⟩ | ⟨g,_,e,_⟩
 ·exact .inl e
 ·exact .inr ⟨g,e⟩
theorem RowP.cell (h:RowP w a c n xs) {j:Nat} {u:Value} (hj:xs[j]? = some u):∃ g,a=some ⟨g,0,none⟩∧w.cell? ⟨g,j,none⟩=some u:=by
 obtain ⟨h0,h⟩:=h
 rcases h with ⟨_,_,h2⟩ | ⟨g,sp,e,_,_,_,l⟩
 ·have:xs=[]:=List.eq_nil_of_length_eq_zero (by omega)
  rw [this] at hj;simp at hj
 ·refine ⟨g,e,?_⟩
  rw [l.cell,List.getElem?_append_left (List.getElem?_eq_some_iff.1 hj).1]
  exact hj
theorem RowP.own (h:RowP w a c n xs):w.ownsRow 0 132 4 (.slice a n c) n xs:=by
 obtain ⟨h0,h⟩:=h
 refine ⟨h0,?_⟩
 rcases h with ⟨rfl,rfl,rfl⟩ | ⟨g,sp,rfl,h1,h2,h3,l⟩
 ·exact .inl ⟨rfl,rfl⟩
 ·refine .inr ⟨g,c,_,rfl,Nat.zero_le _,l,h2,by unfold maxLen;omega,?_,?_⟩
  ·simp;omega
  ·rw [←h0];simp
theorem zr4 {v:Value} (h:w.ownsRow 0 132 4 v n xs):∃ a c,v=.slice a n c∧RowP w a c n xs:=by
 obtain ⟨hl,h⟩:=h
 rcases h with ⟨rfl,rfl⟩ | ⟨g,cap,cur,rfl,_,hh,hn,hm,hs,ht⟩
 ·obtain rfl:xs=[]:=List.eq_nil_of_length_eq_zero (by omega)
  exact ⟨none,0,rfl,RowP.nil w⟩
 ·unfold maxLen at hm
  refine ⟨_,_,rfl,hl,.inr ⟨g,cur.toList.drop (n*4),rfl,?_,hn,by omega,(zc8 hh).to ?_⟩⟩
  ·have h1:cur.toList.length=cap*4:=by simpa using hs
   rw [List.length_drop,h1,hl];omega
  ·rw [←ht,List.take_append_drop]
end
theorem Tryz.infoPair:(Tryz.prog.info? 132).map (fun i=>(i.zero,i.size,i.bytes))=some (some (.agg #[.slice none 0 0,.slice none 0 0,.slice none 0 0,.int .i64 0]),4,80):=by kernel_rfl
def zn3 (a:Option Addr) (n m:Nat) (xs ys:List Value) (w:World) (v:Value) (w':World):Prop:=
 ∃ a' c',v=.slice a' (n+m) c'∧RowP w' a' c' (n+m) (xs++ys)∧Kept (fun g=>a=some ⟨g,0,none⟩) w w'∧∀ g,a'=some ⟨g,0,none⟩→a=some ⟨g,0,none⟩∨w.heap.size≤g
theorem zl6 (t ty:TypeId) (hu:Tryz.prog.underlying t=some (.slice 132))
  (a:Option Addr) (c n:Nat) (xs:List Value) (w:World) (R:RowP w a c n xs) (ad:Addr) (m d:Nat) (ys:List Value) (hm:ys.length=m*4) (hc:∀ j u,ys[j]? = some u→w.cell? (ad.add j)=some u) (h1:∀ u∈ys,u.oneCell'=true) (hb:n+m≤1000000000000) :
  ∃ v w',(Builtin.append_ #[t,t] ty #[.slice a n c,.slice (some ad) m d]).run Tryz.prog w=.ok v w'∧zn3 a n m xs ys w v w':=by
 obtain ⟨i,hi,hz,hsz,hby⟩:=info_parts Tryz.infoPair
 have hform:=R.form
 have hx:=R.1
 obtain ⟨v',w',hr,h2,h3,_,h5⟩:=run_append_own_at (P:=Tryz.prog) w 0 t ty 132 i _ 4 80 hu hi hz hsz hby (by simp [Value.cells]) (by omega) _ n xs R.own
  ad m d ys hm hc h1 (by unfold maxLen;omega) (by omega) (Nat.zero_le _)
 obtain ⟨a',c',rfl,r'⟩:=zr4 h2
 refine ⟨_,w',hr,a',c',rfl,r',?_,fun g e=>?_⟩
 ·refine ⟨h3.os,h3.tape,h3.output,h3.size,fun g hg hx=>h3.block g hg (fun e=>?_)⟩
  obtain ⟨x,rfl,hx'⟩:=(ownBlock_slice a _ _ g).1 e.symm
  rcases hform with h | ⟨g',h⟩
  ·cases h
  ·injection h with h;subst h;subst hx';exact hx rfl
 ·subst e
  rcases h5 with h5 | h5
  ·obtain ⟨x,rfl,hx⟩:=(ownBlock_slice a n c g).1 (by rw [←h5];rfl)
   rcases hform with h | ⟨g',h⟩
   ·cases h
   ·injection h with h;subst h;subst hx;exact .inl rfl
  ·have:g=w.heap.size:=by simpa [Value.ownBlock] using h5
   exact .inr (by omega)
structure PbAt (W:World) (p:Pb):Prop where
 c:Bag W p.ca p.cc p.x.c
 l:Its W p.la p.lc p.x.l
 w:Bag W p.wa p.wc p.x.w
structure Pbs (w:World) (a:Option Addr) (c:Nat) (ls:List Pb):Prop where
 row:RowP w a c ls.length (zfT ls)
 each:∀ l∈ls,PbAt w l
def Prs (w:World) (a:Option Addr) (c:Nat) (Q:List Pr):Prop:=∃ ls,prs ls=Q∧Pbs w a c ls
def Far (X:Nat→Prop) (w:World):Prop:=(∀ g cs,Lies w g 111 cs→¬X g)∧∀ g cs,Lies w g 3 cs→¬X g
section
variable {w w':World} {a:Option Addr} {c:Nat} {ls:List Pb} {Q:List Pr} {X:Nat→Prop}
theorem Bag.farX {b:Option Addr} {d:Nat} {xs:List Int} (h:Bag w b d xs) (k:Kept X w w') (f:Far X w):Bag w' b d xs:=h.kept k (fun g e=>by
 rcases h with ⟨h3,_⟩ | ⟨g',sp,h3,_,_,l⟩
 ·rw [h3] at e;cases e
 ·rw [h3] at e;injection e with e;injection e with e;subst e
  exact f.2 _ _ l)
theorem PbAt.far {l:Pb} (h:PbAt w l) (k:Kept X w w') (f:Far X w):PbAt w' l:=⟨h.c.farX k f,h.l.kept k f.1 f.2,h.w.farX k f⟩
theorem PbAt.below {l:Pb} (h:PbAt w l) (k:Below w.heap.size w w'):PbAt w' l:=⟨h.c.below k,h.l.below k,h.w.below k⟩
theorem Pbs.nil (w:World):Pbs w none 0 []:=⟨RowP.nil w,fun l h=>by simp at h⟩
theorem Pbs.below (h:Pbs w a c ls) (k:Below w.heap.size w w'):Pbs w' a c ls:=⟨h.row.below k,fun l hl=>(h.each l hl).below k⟩
theorem Prs.below (h:Prs w a c Q) (k:Below w.heap.size w w'):Prs w' a c Q:=by
 obtain ⟨ls,e,h⟩:=h
 exact ⟨ls,e,h.below k⟩
theorem RowP.lies {n:Nat} {xs:List Value} (h:RowP w a c n xs) {g:Nat} (e:a=some ⟨g,0,none⟩):∃ cs,Lies w g 132 cs:=by
 rcases h.2 with ⟨h3,_⟩ | ⟨g',sp,h3,_,_,_,l⟩
 ·rw [h3] at e;cases e
 ·rw [h3] at e;injection e with e;injection e with e;subst e
  exact ⟨_,l⟩
theorem Prs.far (h:Prs w a c Q) (k:Kept X w w') (f:Far X w) (hp:∀ g,a=some ⟨g,0,none⟩→¬X g):Prs w' a c Q:=by
 obtain ⟨ls,e,h⟩:=h
 exact ⟨ls,e,h.row.kept k hp,fun l hl=>(h.each l hl).far k f⟩
theorem Prs.le (h:Prs w a c Q):Q.length≤c∧c≤9223372036854775807:=by
 obtain ⟨ls,rfl,h⟩:=h
 rw [zkT]
 exact h.row.le
theorem Prs.lt (h:Prs w a c Q) {g:Nat} (e:a=some ⟨g,0,none⟩):g<w.heap.size:=by
 obtain ⟨ls,_,h⟩:=h
 exact h.row.lt e
theorem Prs.lies (h:Prs w a c Q) {g:Nat} (e:a=some ⟨g,0,none⟩):∃ cs,Lies w g 132 cs:=by
 obtain ⟨ls,_,h⟩:=h
 exact h.row.lies e
theorem Prs.at (h:Prs w a c Q) {k:Nat} (hk:k<Q.length):∃ g l,a=some ⟨g,0,none⟩∧Pb.x l=prAt Q k∧(∀ i,i<4→w.cell? ⟨g,k*4+i,none⟩=l.cells[i]?)∧PbAt w l:=by
 obtain ⟨ls,rfl,h⟩:=h
 rw [zkT] at hk
 have e:(ls[k]).x=prAt (prs ls) k:=by simp [prAt,prs,List.getD,hk]
 obtain ⟨g,ha⟩:∃ g,a=some ⟨g,0,none⟩:=by
  have f0:=ziG ls k hk 0 (by omega)
  obtain ⟨g,e0,_⟩:=h.row.cell (j:=k*4+0) (u:=.slice (ls[k]).ca (ls[k]).x.c.length (ls[k]).cc) (by rw [f0];rfl)
  exact ⟨g,e0⟩
 refine ⟨g,ls[k],ha,e,fun i hi=>?_,h.each _ (List.getElem_mem hk)⟩
 have f:=ziG ls k hk i hi
 have hi':i<(ls[k]).cells.length:=hi
 rw [List.getElem?_eq_getElem hi'] at f
 obtain ⟨g',e',c'⟩:=h.row.cell f
 rw [ha] at e'
 injection e' with e';injection e' with e';subst e'
 rw [c',List.getElem?_eq_getElem hi']
theorem zr5 {l:Pb} {n:Nat} {v:Value} (hs:prs ls=Q) (h:Pbs w a c ls) (hl:PbAt w l) (hn:Q.length=n) (r:zn3 a n 1 (zfT ls) l.cells w v w') :
  ∃ a' c',v=.slice a' (n+1) c'∧Prs w' a' c' (Q++[l.x])∧Kept (fun g=>a=some ⟨g,0,none⟩) w w'∧∀ g,a'=some ⟨g,0,none⟩→a=some ⟨g,0,none⟩∨w.heap.size≤g:=by
 subst hn hs
 obtain ⟨a',c',rfl,R,k,f⟩:=r
 have fr:Far (fun g=>a=some ⟨g,0,none⟩) w:=⟨fun g cs l e=>by
   obtain ⟨ds,l2⟩:=h.row.lies e
   exact l.other l2 (by decide) rfl,fun g cs l e=>by
   obtain ⟨ds,l2⟩:=h.row.lies e
   exact l.other l2 (by decide) rfl⟩
 refine ⟨a',c',rfl,⟨ls++[l],by simp [prs],⟨?_,fun z hz=>?_⟩⟩,k,f⟩
 ·rw [zqJ,List.length_append]
  have e:zfT [l]=l.cells:=by simp [zfT]
  rw [e]
  rw [zkT] at R
  exact R
 ·rcases List.mem_append.1 hz with hz | hz
  ·exact (h.each z hz).far k fr
  ·rw [List.mem_singleton] at hz;subst hz
   exact hl.far k fr
end
end Go.Proofs.YtmnkjekjknhhjaaGreatDoor
namespace Go.Proofs.YtmnkjekjknhhjaaGreatDoor
open Go.ChangeShapes Go.WideShapes Go.ChangeAt Go.RowKit Go.Maps
theorem Tryz.zero3s (w:World):(zeroValue 3).run Tryz.prog w=.ok (.int .i64 0) w:=by kernel_rfl
theorem Tryz.law9s:Keyed Tryz.prog 9:=string_keyed Tryz.underlying9
def MapT (w:World) (b:Nat) (T:List (List UInt8)):Prop:=
 ∃ D:DataW Unit,w.ownsMap Tryz.prog 9 (plainElem Tryz.prog 3) b T.length D∧∀ t:List UInt8,D.atKey (.string t) (.lit (.int .i64 0))=.lit (.int .i64 (if t∈T then 1 else 0))
theorem MapT.new (w:World):MapT (w.alloc (.map #[] 0)) w.heap.size []:=⟨.map [],World.ownsMap_made w _ _ _,fun t=>by simp;rfl⟩
theorem MapT.kept {X:Nat→Prop} {w w':World} {b:Nat} {T:List (List UInt8)} (h:MapT w b T) (k:Kept X w w') (hx:¬X b):MapT w' b T:=by
 obtain ⟨D,o,hD⟩:=h
 have hlt:=o.lt
 obtain ⟨es,clock,hb,F,hs,hd⟩:=o
 exact ⟨D,⟨es,clock,(k.block b hlt hx).trans hb,F,hs,hd⟩,hD⟩
theorem MapT.cells {w:World} {b g:Nat} {T:List (List UInt8)} {t:TypeId} {cs:List Value} (h:MapT w b T) (l:Lies w g t cs):g≠b:=fun e=>by
 obtain ⟨D,⟨es,clock,hb,_⟩,_⟩:=h
 subst e
 unfold Lies at l
 rw [hb] at l
 cases l
theorem zr6 {D:DataW Unit} (hm:IsMap D) {T:List (List UInt8)} (hD:∀ t:List UInt8,D.atKey (.string t) (.lit (.int .i64 0))=.lit (.int .i64 (if t∈T then 1 else 0))) (y:List UInt8) (t:List UInt8) :
  (D.put (.string y) (.lit (.int .i64 1))).atKey (.string t) (.lit (.int .i64 0))=.lit (.int .i64 (if t∈T++[y] then 1 else 0)):=by
 by_cases h:t=y
 ·subst h
  rw [atKey_put_same hm (show WideAt.IsKeyLit (.string t) from trivial)]
  simp
 ·rw [atKey_put_other (fun e=>h (by injection e)),hD t]
  simp [h]
def zed (z:Pr):List UInt8:=textB z.c z.l
structure SrAt (w0:World) (mp:Option Addr) (M:Mr) (gm gx:Nat) (xv:List Value) (qa:Option Addr) (qc:Nat) (Q:List Pr) (T:List (List UInt8)) (W:World):Prop where
 meter:MrAt W 41 mp M
 old:∀ g,mp=some ⟨g,0,none⟩→g<w0.heap.size
 kept:MK mp w0 W
 map:MapT W gm T
 hm:w0.heap.size≤gm
 box:Lies W gx 53 xv
 hx:w0.heap.size≤gx
 prs:Prs W qa qc Q
 new:From w0.heap.size qa
section
variable {w0 W W':World} {mp:Option Addr} {M M':Mr} {gm gx:Nat} {xv:List Value} {qa:Option Addr} {qc:Nat} {Q:List Pr} {T:List (List UInt8)}
theorem SrAt.below (h:SrAt w0 mp M gm gx xv qa qc Q T W) (b:Below W.heap.size W W'):SrAt w0 mp M gm gx xv qa qc Q T W':=
 ⟨h.meter.below b,h.old,h.kept.then b,h.map.kept (X:=fun _=>False) (Kept.of_below b) (fun e=>e),h.hm,h.box.below b h.box.lt,h.hx,h.prs.below b,h.new⟩
theorem zeM (h:MrAt W 41 mp M):Far (fun g=>mp=some ⟨g,0,none⟩) W:=by
 have hap:∀ (t:TypeId) (g:Nat) (cs:List Value),t≠41→Lies W g t cs→mp≠some ⟨g,0,none⟩:=fun t g cs ht l e=>by
  rcases h.form with h | ⟨b,h,cs',l'⟩
  ·rw [h] at e;cases e
  ·rw [h] at e;injection e with e;injection e with e;subst e
   exact l.other l' ht rfl
 exact ⟨fun g cs l=>hap _ g cs (by decide) l,fun g cs l=>hap _ g cs (by decide) l⟩
theorem SrAt.spent (h:SrAt w0 mp M gm gx xv qa qc Q T W) (m:MrAt W' 41 mp M') (k:MK mp W W'):SrAt w0 mp M' gm gx xv qa qc Q T W':=
 ⟨m,h.old,h.kept.and k,h.map.kept k (fun e=>by have:=h.old _ e;have:=h.hm;omega),h.hm,h.box.kept k (fun e=>by have:=h.old _ e;have:=h.hx;omega),h.hx,
  h.prs.far k (zeM h.meter) (fun g e e2=>by have:=h.old _ e2;have:=h.new g e;omega),h.new⟩
theorem SrAt.other (h:SrAt w0 mp M gm gx xv qa qc Q T W) {gy:Nat} {cs:List Value} (l:Lies W gy 132 cs) (hy:w0.heap.size≤gy) (hq:qa≠some ⟨gy,0,none⟩) (k:Kept (fun g=>g=gy) W W'):SrAt w0 mp M gm gx xv qa qc Q T W':=
 ⟨h.meter.kept k (fun g e e2=>by have:=h.old _ e;omega),h.old,h.kept.trans k (fun i hi e=>by omega),h.map.kept k (fun e=>(h.map.cells l) e.symm),h.hm,
  h.box.kept k (fun e=>by subst e;exact l.other h.box (by decide) rfl),h.hx,
  h.prs.far k ⟨fun g cs l2 e=>by subst e;exact l.other l2 (by decide) rfl,fun g cs l2 e=>by subst e;exact l.other l2 (by decide) rfl⟩ (fun g e e2=>by subst e2;exact hq e),h.new⟩
theorem SrAt.push (h:SrAt w0 mp M gm gx xv qa qc Q T W) {R:List Pr} {qa':Option Addr} {qc':Nat} (r:Prs W' qa' qc' R) (k:Kept (fun g=>qa=some ⟨g,0,none⟩) W W') (f:∀ g,qa'=some ⟨g,0,none⟩→qa=some ⟨g,0,none⟩∨W.heap.size≤g):SrAt w0 mp M gm gx xv qa' qc' R T W':=by
 have hsz:=h.kept.size
 refine ⟨h.meter.kept k (fun g e e2=>by have:=h.old _ e;have:=h.new _ e2;omega),h.old,h.kept.trans k (fun i hi e=>by have:=h.new _ e;omega),h.map.kept k (fun e=>?_),h.hm,
  h.box.kept k (fun e=>?_),h.hx,r,fun g e=>?_⟩
 ·obtain ⟨cs,l2⟩:=h.prs.lies e
  exact h.map.cells l2 rfl
 ·obtain ⟨cs,l2⟩:=h.prs.lies e
  exact h.box.other l2 (by decide) rfl
 ·rcases f g e with e | e
  ·exact h.new g e
  ·omega
theorem SrAt.put (h:SrAt w0 mp M gm gx xv qa qc Q T W) {y:List UInt8} (hT:MapT W' gm (T++[y])) (k:Kept (fun g=>g=gm) W W'):SrAt w0 mp M gm gx xv qa qc Q (T++[y]) W':=by
 have hsz:=h.hm
 have hf:Far (fun g=>g=gm) W:=⟨fun g cs l e=>h.map.cells l e,fun g cs l e=>h.map.cells l e⟩
 exact ⟨h.meter.kept k (fun g e e2=>by have:=h.old _ e;omega),h.old,h.kept.trans k (fun i hi e=>by omega),hT,h.hm,h.box.kept k (h.map.cells h.box),h.hx,
  h.prs.far k hf (fun g e e2=>by obtain ⟨cs,l2⟩:=h.prs.lies e;exact h.map.cells l2 e2),h.new⟩
end
end Go.Proofs.YtmnkjekjknhhjaaGreatDoor
namespace Go.Proofs.YtmnkjekjknhhjaaGreatDoor
open Go.ChangeShapes Go.WideShapes Go.ChangeAt Go.RowKit Go.Maps
structure BoxP (w0:World) (qa:Option Addr) (g:Nat) (p:Pb) (W:World):Prop where
 lies:Lies W g 132 p.cells
 new:w0.heap.size≤g
 ne:qa≠some ⟨g,0,none⟩
 holds:PbAt W p
section
variable {w0 W W':World} {mp:Option Addr} {M M':Mr} {gm gx g g':Nat} {xv:List Value} {qa:Option Addr} {qc:Nat} {Q:List Pr} {T:List (List UInt8)} {p p':Pb}
theorem BoxP.below (h:BoxP w0 qa g p W) (b:Below W.heap.size W W'):BoxP w0 qa g p W':=⟨h.lies.below b h.lies.lt,h.new,h.ne,h.holds.below b⟩
theorem BoxP.spent (h:BoxP w0 qa g p W) (s:SrAt w0 mp M gm gx xv qa qc Q T W) (k:MK mp W W'):BoxP w0 qa g p W':=
 ⟨h.lies.kept k (fun e=>by have:=s.old _ e;have:=h.new;omega),h.new,h.ne,h.holds.far k (zeM s.meter)⟩
theorem zl7 {cs:List Value} {t:TypeId} (l:Lies W g t cs) (h1:t≠111) (h2:t≠3):Far (fun x=>x=g) W:=
 ⟨fun x cs l2 e=>by subst e;exact l2.other l (Ne.symm h1) rfl,fun x cs l2 e=>by subst e;exact l2.other l (Ne.symm h2) rfl⟩
theorem BoxP.other (h:BoxP w0 qa g p W) (h':BoxP w0 qa g' p' W) (hne:g≠g') (k:Kept (fun x=>x=g') W W'):BoxP w0 qa g p W':=
 ⟨h.lies.kept k hne,h.new,h.ne,h.holds.far k (zl7 h'.lies (by decide) (by decide))⟩
theorem BoxP.push (h:BoxP w0 qa g p W) (s:SrAt w0 mp M gm gx xv qa qc Q T W) {qa':Option Addr} (k:Kept (fun g=>qa=some ⟨g,0,none⟩) W W') (f:∀ g,qa'=some ⟨g,0,none⟩→qa=some ⟨g,0,none⟩∨W.heap.size≤g):BoxP w0 qa' g p W':=
 ⟨h.lies.kept k h.ne,h.new,fun e=>by
  rcases f g e with e | e
  ·exact h.ne e
  ·have:=h.lies.lt;omega,h.holds.far k ⟨fun x cs l e=>by
   obtain ⟨ds,l2⟩:=s.prs.lies e
   exact l.other l2 (by decide) rfl,fun x cs l e=>by
   obtain ⟨ds,l2⟩:=s.prs.lies e
   exact l.other l2 (by decide) rfl⟩⟩
theorem BoxP.put (h:BoxP w0 qa g p W) (s:SrAt w0 mp M gm gx xv qa qc Q T W) (k:Kept (fun g=>g=gm) W W'):BoxP w0 qa g p W':=
 ⟨h.lies.kept k (s.map.cells h.lies),h.new,h.ne,h.holds.far k ⟨fun _ _ l e=>s.map.cells l e,fun _ _ l e=>s.map.cells l e⟩⟩
theorem BoxP.word (h:BoxP w0 qa g p W) {a:Option Addr} {c:Nat} {v:List Int} (hv:Bag W a c v) :
  BoxP w0 qa g ⟨p.ca,p.cc,p.la,p.lc,a,c,⟨p.x.c,p.x.l,v,p.x.n⟩⟩ (W.setCell ⟨g,2,none⟩ (.slice a v.length c)):=by
 have k:Kept (fun x=>x=g) W (W.setCell ⟨g,2,none⟩ (.slice a v.length c)):=(Kept.refl (fun x=>x=g) W).setCell (p:=⟨g,2,none⟩) (fun _=>rfl) _
 have f:=zl7 h.lies (by decide) (by decide)
 exact ⟨h.lies.set 2 _,h.new,h.ne,⟨h.holds.c.farX k f,h.holds.l.kept k f.1 f.2,hv.farX k f⟩⟩
theorem zgy (W:World) (g:Nat) (v:Value):Kept (fun x=>x=g) W (W.setCell ⟨g,2,none⟩ v):=(Kept.refl (fun x=>x=g) W).setCell (p:=⟨g,2,none⟩) (fun _=>rfl) _
end
theorem Its.far3 {w0 W W':World} {mp:Option Addr} {M:Mr} {gm gx:Nat} {xv:List Value} {qa:Option Addr} {qc:Nat} {Q:List Pr} {T:List (List UInt8)} {a:Option Addr} {c:Nat} {l:List It} (h:Its W a c l) (s:SrAt w0 mp M gm gx xv qa qc Q T W) (k:MK mp W W'):Its W' a c l:=
 h.kept k (zeM s.meter).1 (zeM s.meter).2
theorem Prs.look {w:World} {a:Option Addr} {c:Nat} {Q:List Pr} (h:Prs w a c Q) {k:Nat} (hk:k<Q.length):∃ g ca cc la lc wa wc,a=some ⟨g,0,none⟩∧w.cell? ⟨g,k*4,none⟩=some (.slice ca (prAt Q k).c.length cc)∧w.cell? ⟨g,k*4+1,none⟩=some (.slice la (prAt Q k).l.length lc)∧
  w.cell? ⟨g,k*4+2,none⟩=some (.slice wa (prAt Q k).w.length wc)∧w.cell? ⟨g,k*4+3,none⟩=some (.int .i64 ((prAt Q k).n:Int))∧PbAt w ⟨ca,cc,la,lc,wa,wc,prAt Q k⟩:=by
 obtain ⟨g,l,e,hx,hc,hat⟩:=h.at hk
 obtain ⟨ca,cc,la,lc,wa,wc,z⟩:=l
 have hx:z=prAt Q k:=hx
 subst hx
 exact ⟨g,ca,cc,la,lc,wa,wc,e,hc 0 (by omega),hc 1 (by omega),hc 2 (by omega),hc 3 (by omega),hat⟩
theorem zl8 {w w':World} {gm:Nat} {T:List (List UInt8)} {D:DataW Unit} {y:List UInt8} (ho:w.ownsMap Tryz.prog 9 (plainElem Tryz.prog 3) gm T.length D) (hD:∀ t:List UInt8,D.atKey (.string t) (.lit (.int .i64 0))=.lit (.int .i64 (if t∈T then 1 else 0)))
  (h1:w'.ownsMap Tryz.prog 9 (plainElem Tryz.prog 3) gm (T.length+1) (D.put (.string y) (.lit (.int .i64 1)))) (hg:w.grownBy w' (some gm)):MapT w' gm (T++[y])∧Kept (fun g=>g=gm) w w':=by
 refine ⟨⟨_,by rw [List.length_append];exact h1,zr6 (ho.tidy Tryz.law9s).isMap hD y⟩,hg.os,hg.tape,hg.output,hg.size,fun g hl hx=>hg.block g hl (fun e=>hx (by injection e))⟩
theorem zqK (x:It):(zgv x).length=5+8*x.c.length:=by
 unfold zgv
 simp only [List.length_cons,List.length_append,ze9,List.length_nil]
 omega
theorem zqL {c:List Int} {l:List It} (hc:zaa c=true) (hl:∀ x∈l,zah x=true):(textB c l).length≤97+101*l.length:=by
 unfold textB
 rw [List.length_append,ze9]
 have h1:=(zac.1 hc).1
 have h2:∀ k:List It,(∀ x∈k,zah x=true)→(k.flatMap zgv).length≤101*k.length:=by
  intro k
  induction k with
  | nil=>intro _;simp
  | cons z q ih=>
   intro h
   have h3:=ih (fun x hx=>h x (List.mem_cons_of_mem _ hx))
   have h4:z.c.length≤12:=(zac.1 (h z (by simp))).1
   rw [List.flatMap_cons,List.length_append,zqK,List.length_cons]
   omega
 have:=h2 l hl
 omega
theorem zn4 {c:List Int} {l:List It} (hc:zaa c=true) (hl:∀ x∈l,zah x=true∧0≤x.j∧x.j<100) (hn:l.length≤50000000):keyOf Tryz.prog 9 (.string ⟨(textB c l).toArray⟩)=some (.string (textB c l)):=by
 have h:=zqL hc (fun x hx=>(hl x hx).1)
 have:=Go.WideMaps.keyOf_string_mk (P:=Tryz.prog) (s:=⟨(textB c l).toArray⟩) Tryz.underlying9 (by unfold maxLen;show (textB c l).toArray.size≤_;rw [List.size_toArray];omega)
 simpa using this
theorem zdY {x:Lin} {b:List Lin}:∀ (f k:Nat) (Q:List Pr) (M:Mr) (r:Sr),zag x b f k Q M=some r→∃ R,r.q=Q++R
 | 0,_,_,_,_,h=>by simp [zag] at h
 | f+1,k,Q,M,r,h=>by
  unfold zag at h
  split at h
  ·split at h
   ·injection h with h;exact ⟨[],by rw [←h];simp⟩
   ·split at h
    ·injection h with h;exact ⟨[],by rw [←h];simp⟩
    ·obtain ⟨R,e⟩:=zeI x b (prAt Q k) (2 ^ x.ps.length) 0 Q M
     split at h
     ·obtain ⟨R2,e2⟩:=zdY f (k+1) _ _ r h
      exact ⟨R++R2,by rw [e2,e,List.append_assoc]⟩
     ·injection h with h;exact ⟨R,by rw [←h];exact e⟩
  ·injection h with h;exact ⟨[],by rw [←h];simp⟩
theorem zl9 {x:Lin} {b:List Lin} {f k:Nat} {Q:List Pr} {M:Mr} {r:Sr} (h:zag x b f k Q M=some r) (hk:¬k<Q.length):r=⟨true,[],0,M,Q⟩:=by
 cases f with
 | zero=>simp [zag] at h
 | succ f=>unfold zag at h;rw [if_neg hk] at h;injection h with h;exact h.symm
theorem zma {x:Lin} {b:List Lin} {f k:Nat} {Q:List Pr} {M:Mr} {r:Sr} (h:zag x b f k Q M=some r) (hk:k<Q.length) (h1:(prAt Q k).c=[]∧finalL (prAt Q k).l=false):r=⟨false,(prAt Q k).w,0,M,Q⟩:=by
 cases f with
 | zero=>simp [zag] at h
 | succ f=>unfold zag at h;rw [if_pos hk,if_pos h1] at h;injection h with h;exact h.symm
theorem zmS {x:Lin} {b:List Lin} {f k:Nat} {Q:List Pr} {M:Mr} {r:Sr} (h:zag x b f k Q M=some r) (hk:k<Q.length) (h1:¬((prAt Q k).c=[]∧finalL (prAt Q k).l=false)) (h2:60≤(prAt Q k).n):r=⟨false,[],3,M,Q⟩:=by
 cases f with
 | zero=>simp [zag] at h
 | succ f=>unfold zag at h;rw [if_pos hk,if_neg h1,if_pos (.inr h2)] at h;injection h with h;exact h.symm
theorem zmT {x:Lin} {b:List Lin} {f k:Nat} {Q:List Pr} {M:Mr} {r:Sr} (h:zag x b f k Q M=some r) (hk:k<Q.length) (h1:¬((prAt Q k).c=[]∧finalL (prAt Q k).l=false)) (h2:¬(20<x.ps.length∨60≤(prAt Q k).n)) :
  ((zal x b (prAt Q k) (2 ^ x.ps.length) 0 Q M).2.1=0∧∃ g,zag x b g (k+1) (zal x b (prAt Q k) (2 ^ x.ps.length) 0 Q M).1 (zal x b (prAt Q k) (2 ^ x.ps.length) 0 Q M).2.2=some r)∨
  ((zal x b (prAt Q k) (2 ^ x.ps.length) 0 Q M).2.1≠0∧r=⟨false,[],(zal x b (prAt Q k) (2 ^ x.ps.length) 0 Q M).2.1,(zal x b (prAt Q k) (2 ^ x.ps.length) 0 Q M).2.2,(zal x b (prAt Q k) (2 ^ x.ps.length) 0 Q M).1⟩):=by
 cases f with
 | zero=>simp [zag] at h
 | succ f=>
  unfold zag at h
  rw [if_pos hk,if_neg h1,if_neg h2] at h
  by_cases h3:(zal x b (prAt Q k) (2 ^ x.ps.length) 0 Q M).2.1=0
  ·rw [if_pos h3] at h;exact .inl ⟨h3,f,h⟩
  ·rw [if_neg h3] at h;injection h with h;exact .inr ⟨h3,h.symm⟩
theorem zr7 {w w':World} {mp:Option Addr} {M:Mr} (h:MrAt w 41 mp M) (k:MK mp w w') {a:Option Addr} {c:Nat} {xs:List (List Int)} (r:Bags w a c xs):Bags w' a c xs:=by
 obtain ⟨ps,e,Q⟩:=r
 exact ⟨ps,e,Q.row.kept k (fun g e=>zcD h (by decide) Q.row e),fun p hp=>(Q.each p hp).kept k (fun g e=>zaV h (by decide) (Q.each p hp) e)⟩
theorem zbY {a b:List Lin} {j:Nat} {N:Mr} {q:Pr} (h:PrOk a b j N q):zaa q.c=true:=h.read.ok.small.right
theorem zfa {a b:List Lin} (hb:Thin b) {j:Nat} {N:Mr} (hN:N=none) {q:Pr} (h:PrOk a b j N q):zgt b q.l:=by
 rw [h.items]
 exact ziD hb q.w q.n hN
theorem zfb {b:List Lin} (hb:Thin b) {l:List It} (h:zgt b l):(∀ x∈l,zah x=true∧0≤x.j∧x.j<100)∧zfl l∧l.length≤50000000:=by
 have hf:=hb.few
 have h1:∀ x∈l,zah x=true∧0≤x.j∧x.j<100:=fun x hx=>by
  have:=h.2 x hx
  exact ⟨h.1.1 x hx,this.lo,by have:=this.hi;omega⟩
 exact ⟨h1,fun x hx=>by have:=h1 x hx;exact ⟨this.1,this.2.1,by omega⟩,by have:=zkI hb h.1 h.2;omega⟩
theorem zr8 {a b:List Lin} (hb:Thin b) {j:Nat} {N:Mr} (hN:N=none) {Q:List Pr} (hQ:∀ z∈Q,PrOk a b j N z) {p:Pr} (hp:PrOk a b j N p):zed p∈Q.map zed↔zkP Q p.c p.l=true:=by
 rw [zqF,List.mem_map]
 have tp:=(zfb hb (zfa hb hN hp)).2.1
 constructor
 ·rintro ⟨z,hz,e⟩
  have tz:=(zfb hb (zfa hb hN (hQ z hz))).2.1
  have h:=zrZ (zbY (hQ z hz)) (zbY hp) tz tp e
  exact ⟨z,hz,h.1,h.2⟩
 ·rintro ⟨z,hz,h1,h2⟩
  exact ⟨z,hz,by unfold zed;rw [h1,h2]⟩
end Go.Proofs.YtmnkjekjknhhjaaGreatDoor
namespace Go.Proofs.YtmnkjekjknhhjaaGreatDoor
open Go.ChangeShapes Go.WideShapes Go.ChangeAt Go.RowKit Go.Maps
theorem ztS {od:Int} (h0:0≤od) (h1:od≤4095) (t:Nat):bits .and .u64 (od/2 ^ t) 1=od/2 ^ t % 2:=by
 obtain ⟨m,rfl⟩:∃ m:Nat,od=m:=⟨od.toNat,by omega⟩
 have e0:(m:Int)/2 ^ t=((m/2 ^ t:Nat):Int):=by rw [Int.natCast_ediv];simp
 have hle:m/2 ^ t≤m:=Nat.div_le_self _ _
 have h2:=bits_and_u64_nat (m/2 ^ t) 1 (by omega) (by omega)
 rw [Nat.and_one_is_mod] at h2
 have h3:bits .and .u64 ((m/2 ^ t:Nat):Int) 1=((m/2 ^ t % 2:Nat):Int):=h2
 rw [e0,h3,Int.natCast_emod]
 rfl
theorem zoQ {odd:Int} {n k t:Nat} {w:List Int} (h:odd/2 ^ t % 2=1):zcv odd n (k+1) t w=zcv odd n k (t+1) (zbp w (zc5 (t:Int) (2 ^ n))):=by rw [zcv,if_pos h]
theorem zqM {odd:Int} {n k t:Nat} {w:List Int} (h:¬odd/2 ^ t % 2=1):zcv odd n (k+1) t w=zcv odd n k (t+1) w:=by rw [zcv,if_neg h]
def zmU (mp:Option Addr) (r:Sr) (w:World) (e:Ending) (w':World):Prop:=
 ∃ a c,e=.returned (.tuple #[.bool r.ok,.slice a r.w.length c,.int .i64 r.e])∧Bag w' a c r.w∧MrAt w' 41 mp r.m∧MK mp w w'
set_option maxRecDepth 100000 in
set_option maxHeartbeats 8000000 in
theorem ztT (mp xa pa ba:Option Addr) (xc pc bc:Nat) (M:Mr) (a b:List Lin) (j:Nat) (x:Lin) (N:Mr) (hN:Hid (N=(none:Mr))) (hx:Hid (x=zab a j)) (ha:Hid (Thin a)) (hb:Hid (Thin b)) (hj:Hid (j<a.length)) (r:Sr) (f:Nat) (hs:Hid (zbX f x b M=some r)) (hrq:r.q.length≤1000000000) (w:World)
  (HMM:Hid (MrAt w 41 mp M)) (HBX:Hid (Bag w xa xc x.base)) (HPX:Hid (Bags w pa pc x.ps)) (HBS:Hid (Lins w ba bc b)) :
  Calls Tryz.prog 53 #[.pointer mp,.agg #[.slice xa x.base.length xc,.slice pa x.ps.length pc],.slice ba b.length bc] w (zmU mp r w):=by
 have hle:=HBS.out.le
 have hlx:=HBX.out.le
 have hlp:=HPX.out.le
 generalize hn0:x.base.length=n0 at hlx ⊢
 generalize hnp:x.ps.length=np at hlp ⊢
 generalize hnb:b.length=nb at hle ⊢
 have HN0:=dq hn0
 have HNP:=dq hnp
 have HNB:=dq hnb
 clear hn0 hnp hnb
 have HOLD:Hid (∀ g,mp=some ⟨g,0,none⟩→g<w.heap.size):=dq (fun g e=>HMM.out.lt e)
 have hmm:=@run_makeMap Tryz.prog
 have b1:=below_alloc w (.cells #[.slice xa n0 xc,.slice pa np pc] 53)
 have b2:=below_alloc (w.alloc (.cells #[.slice xa n0 xc,.slice pa np pc] 53)) (.map #[] 0)
 have hst:SrAt w mp M (w.heap.size+1) w.heap.size [.slice xa n0 xc,.slice pa np pc] none 0 [] [] ((w.alloc (.cells #[.slice xa n0 xc,.slice pa np pc] 53)).alloc (.map #[] 0)):=
  ⟨(HMM.out.below b1).below b2,HOLD.out,(Kept.refl _ _).alloc _ |>.alloc _,(by have:=MapT.new (w.alloc (.cells #[.slice xa n0 xc,.slice pa np pc] 53));simpa using this),by omega,(Lies.new w _ _).below b2 (by simp),Nat.le_refl _,⟨[],rfl,Pbs.nil _⟩,From.none _⟩
 have HST:=dq hst
 clear b1 b2 hst
 go_enter Tryz.func53,Tryz.ntmps53
 go_upto_region 2 with (fail)
 clear hmm
 generalize (w.alloc (.cells #[.slice xa n0 xc,.slice pa np pc] 53)).alloc (.map #[] 0)=W at HST ⊢
 generalize w.heap.size+1=gm at HST ⊢
 generalize hgx:w.heap.size=gx at HST ⊢
 have HGX:=dq hgx
 clear hgx
 have HZS:Hid (∀ V,SrAt w mp M gm gx [.slice xa n0 xc,.slice pa np pc] none 0 [] [] V→Calls Tryz.prog 48 #[.slice ba nb bc] V (zqf (startL b) V)):=dq (fun V h=>by
  have:=zlI ba bc b V (Lins.mk HMM.out mtR h.kept HBS.out) (by have:=hb.out.few;omega)
  rwa [HNB.out] at this)
 have bd:Lies W.drew gx 53 [.slice xa n0 xc,.slice pa np pc]:=HST.out.box
 have hst0:=HST.out.below (W':=W.drew) ⟨rfl,rfl,rfl,Nat.le_refl _,fun _ _=>rfl⟩
 clear HST
 refine wp_region_held_drew (S:=fun V=>Lies V gx 53 [.slice xa n0 xc,.slice pa np pc]) (by kernel_rfl) bd (fun hHeld=>?_)
 clear hHeld
 refine wpAnyH_take (i:=0) (oi:=⟨some 24,.fieldAddr 53 (.tmp 4) 0,0,"ref.go:637",#[],none⟩) (v:=?_) rfl (by kernel_rfl) (by kernel_rfl) (by kernel_rfl) (fun _ _ _ h=>h) (Or.inl ⟨by rfl,?_⟩) bd ?_
 rotate_left
 ·intro w hSw
  go_simp
  try with_reducible rfl
 try simp only [Act.put,List.setIfInBounds_toArray,List.set_cons_zero,List.set_cons_succ]
 refine wpAnyH_take (i:=1) (oi:=⟨some 25,.load 31 (.tmp 24),31,"ref.go:637",#[⟨0,.data⟩],none⟩) (v:=?_) rfl (by kernel_rfl) (by kernel_rfl) (by kernel_rfl) (fun _ _ _ h=>h) (Or.inl ⟨by rfl,?_⟩) bd ?_
 rotate_left
 ·intro w hSw
  have k0:=hSw.cell 0
  simp only [List.getElem?_cons_zero] at k0
  go_simp
  try with_reducible rfl
 try simp only [Act.put,List.setIfInBounds_toArray,List.set_cons_zero,List.set_cons_succ]
 refine wpAnyH_take (i:=2) (oi:=⟨some 26,.move (.tmp 2),24,"ref.go:637",#[],none⟩) (v:=?_) rfl (by kernel_rfl) (by kernel_rfl) (by kernel_rfl) (fun _ _ _ h=>h) (Or.inl ⟨by rfl,?_⟩) bd ?_
 rotate_left
 ·intro w hSw
  go_simp
  try with_reducible rfl
 try simp only [Act.put,List.setIfInBounds_toArray,List.set_cons_zero,List.set_cons_succ]
 have HS0:=dq (hst0:SrAt w mp M gm gx [.slice xa n0 xc,.slice pa np pc] none 0 [] [] W.drew)
 clear bd hst0
 generalize W.drew=V0 at HS0 ⊢
 have HZ:=HZS.out V0 HS0.out
 refine wpAnyH_ready (rs:=[3]) (by kernel_rfl) (by simp) ?_
 refine AllReadyH.cons (o:=⟨some 27,.call {callee:=.value (.func 48),args:=#[.tmp 26],argTypes:=#[24]},77,"ref.go:637",#[⟨2,.data⟩],none⟩) rfl (fun K hK=>?_) AllReadyH.nil
 go_simp
 refine HZ.mono ?_
 clear HZ HZS
 rintro e V1 ⟨la,lc,rfl,l1,f1,b1⟩
 have HS1:=dq (HS0.out.below b1)
 have HL1:=dq l1
 have hl1:=l1.le
 generalize hlq:(startL b).length=lq at hl1 ⊢
 have HLQ:=dq hlq
 clear hlq l1 f1 b1 HS0
 go_wp2_with (fail)
 refine hK.out _ _ HS1.out.box (fun hHeld=>?_)
 clear hK K hHeld
 try simp only [Act.put,List.setIfInBounds_toArray,List.set_cons_zero,List.set_cons_succ]
 refine wpAnyH_take (i:=4) (oi:=⟨some 28,.build 132 #[(0,.tmp 25),(1,.tmp 27)],132,"ref.go:637",#[⟨1,.data⟩,⟨3,.data⟩],none⟩) (v:=?_) rfl (by kernel_rfl) (by kernel_rfl) (by kernel_rfl) (fun _ _ _ h=>h) (Or.inl ⟨by rfl,?_⟩) HS1.out.box ?_
 rotate_left
 ·intro w hSw
  go_simp
  try with_reducible rfl
 try simp only [Act.put,List.setIfInBounds_toArray,List.set_cons_zero,List.set_cons_succ]
 have bz:=below_alloc V1 (.cells #[.slice xa n0 xc,.slice la lq lc,.slice none 0 0,.int .i64 0] 132)
 have HS2:=dq (HS1.out.below bz)
 have HL2:=dq (HL1.out.below bz)
 have HQ2:=dq (Lies.new V1 132 [.slice xa n0 xc,.slice la lq lc,.slice none 0 0,.int .i64 0])
 have HGQ:Hid (w.heap.size≤V1.heap.size):=dq HS1.out.kept.size
 clear bz HS1 HL1
 refine wpAnyH_ready (rs:=[5]) (by kernel_rfl) (by simp) ?_
 refine AllReadyH.cons (o:=⟨some 29,.buildSlice 133 1 #[(0,.tmp 28)],133,"ref.go:637",#[⟨4,.data⟩],none⟩) rfl (fun K hK=>?_) AllReadyH.nil
 go_simp
 refine hK.out _ _ HS2.out.box (fun hHeld=>?_)
 clear hK K hHeld
 try simp only [Act.put,List.setIfInBounds_toArray,List.set_cons_zero,List.set_cons_succ]
 refine wpAnyH_take (i:=6) (oi:=⟨some 10,.assign (.tmp 29),133,"ref.go:637",#[⟨5,.data⟩,⟨3,.chain⟩,⟨0,.phase⟩,⟨1,.phase⟩,⟨2,.phase⟩,⟨3,.phase⟩,⟨4,.phase⟩,⟨5,.phase⟩],none⟩) (v:=?_) rfl (by kernel_rfl) (by kernel_rfl) (by kernel_rfl) (fun _ _ _ h=>h) (Or.inl ⟨by rfl,?_⟩) HS2.out.box ?_
 rotate_left
 ·intro w hSw
  go_simp
  try with_reducible rfl
 try simp only [Act.put,List.setIfInBounds_toArray,List.set_cons_zero,List.set_cons_succ]
 refine wpAnyH_done (by kernel_rfl) ?_ _
 generalize V1.alloc (.cells #[.slice xa n0 xc,.slice la lq lc,.slice none 0 0,.int .i64 0] 132)=V2 at HS2 HL2 HQ2 ⊢
 generalize V1.heap.size=gq at HQ2 HGQ ⊢
 have hs3:SrAt w mp M gm gx [.slice xa n0 xc,.slice pa np pc] (some ⟨gq,0,none⟩) 1 [first x b] [] V2:=by
  have h:=HS2.out
  refine ⟨h.meter,h.old,h.kept,h.map,h.hm,h.box,h.hx,⟨[⟨xa,xc,la,lc,none,0,first x b⟩],rfl,⟨⟨rfl,.inr ⟨gq,[],rfl,rfl,Nat.le_refl _,by omega,?_⟩⟩,fun z hz=>?_⟩⟩,fun g e=>?_⟩
  ·have e:zfT [⟨xa,xc,la,lc,none,0,first x b⟩]++[]=[.slice xa n0 xc,.slice la lq lc,.slice none 0 0,.int .i64 0]:=by
    rw [←HN0.out,←HLQ.out];rfl
   rw [e]
   exact HQ2.out
  ·rw [List.mem_singleton] at hz;subst hz
   exact ⟨zqI HMM.out h.kept HBX.out,HL2.out,Bag.nil _⟩
  ·injection e with e;injection e with e;have:=HGQ.out;omega
 have HS3:=dq hs3
 have hq0:=HQ2.out.cell 0
 have hq1:=HQ2.out.cell 1
 have hq2:=HQ2.out.cell 2
 have hq3:=HQ2.out.cell 3
 simp only [List.getElem?_cons_zero,List.getElem?_cons_succ] at hq0 hq1 hq2 hq3
 have HLI:=dq HL2.out
 have Z:=zmN mp M 1 V2 HS2.out.meter
 unfold zch at Z
 have hsr:=hs.out
 unfold zbX at hsr
 generalize spendM M 1=sp at Z hsr
 obtain ⟨sv,M1⟩:=sp
 have HSR:=dq hsr
 have HZ:=dq Z
 clear hs3 HS2 HL2 Z hsr hq0 hq1 hq2 hq3
 go_wp2_with (fail)
 refine HZ.out.mono ?_
 clear HZ
 rintro e V3 ⟨rfl,m3,k3⟩
 have HM3:=dq m3
 have HK3:=dq k3
 clear m3 k3
 cases sv with
 | false=>
  have HF:Hid (zmU mp r w (.returned (.tuple #[.bool false,.slice none 0 0,.int .i64 7])) V3):=dq (by
   have h:=HSR.out
   rw [if_neg (by simp)] at h
   injection h with h
   rw [←h]
   exact ⟨none,0,rfl,Bag.nil _,HM3.out,HS3.out.kept.and HK3.out⟩)
  go_wp2
  exact bodyPost_ret (v:=.tuple #[.bool false,.slice none 0 0,.int .i64 7]) (by simp [results,Tryz.results53,go_sem]) rfl HF.out
 | true=>
  have HSG:Hid (zag x b f 0 [first x b] M1=some r):=dq (by
   have h:=HSR.out
   rwa [if_pos rfl] at h)
  have HS4:=dq (HS3.out.spent HM3.out HK3.out)
  have HLI4:=dq (HLI.out.far3 HS3.out HK3.out)
  clear HSR HS3
  obtain ⟨gq',ca,cc,la',lc',wa,wc,e,q0,q1,q2,q3,hat⟩:=HS4.out.prs.look (k:=0) (by simp)
  injection e with e;injection e with e;subst e
  have e0:prAt [first x b] 0=first x b:=rfl
  rw [e0] at q0 q1 q2 q3 hat
  simp only [Nat.zero_mul,Nat.zero_add] at q0 q1 q2 q3
  have HOK:Hid (∀ z∈[first x b],PrOk a b j N z):=dq (fun z hz=>by
   rw [List.mem_singleton] at hz;subst hz
   rw [hx.out]
   exact zjT ha.out hj.out)
  have HO1:=HOK.out (first x b) (by simp)
  have hst:=zfb hb.out (zfa hb.out hN.out HO1)
  have Z:=zuG ca la' cc lc' (first x b).c (first x b).l (.slice wa (first x b).w.length wc) (.int .i64 ((first x b).n:Int)) V3 hat.c hat.l (dq (zbY HO1)) (dq hst.1) hst.2.2
  have HKY:=dq (zn4 (zbY HO1) hst.1 hst.2.2)
  have HPT:Hid (textB (first x b).c (first x b).l=zed (first x b)):=dq rfl
  generalize textB (first x b).c (first x b).l=tx at Z HPT HKY
  generalize (first x b).c.length=q0n at q0 Z
  generalize (first x b).l.length=q1n at q1 Z
  generalize (first x b).w.length=q2n at q2 Z
  generalize (first x b).n=q3n at q3 Z
  have HZ:=dq Z
  clear Z hst HO1 hat e0 HLI HLI4
  go_wp2_with (fail)
  refine HZ.out.mono ?_
  clear HZ
  rintro e V4 ⟨rfl,b4⟩
  have HS5:=dq (HS4.out.below b4)
  clear b4 HS4 q0 q1 q2 q3
  obtain ⟨D,hown,hD⟩:=HS5.out.map
  have HO:=dq hown
  have HD:=dq hD
  clear hown hD
  go_wp2_with (at_mapUpdate;refine wpList_mapUpdate_own _ rfl _ _ _ 130 rfl 9 3 Tryz.law9s Tryz.underlying130 _ gm 0 D rfl HO.out (by unfold maxLen;omega) _ _ (.string tx) rfl rfl HKY.out (.lit (.int .i64 1)) [] (plainElem_int Tryz.underlying3 (WalkArith.wf_i64 (by omega))) ?_;intro V5 hown1 hgrow1;(have HT5:=dq (zl8 (T:=[]) HO.out HD.out hown1 hgrow1));clear hown1 hgrow1)
  have HS6:=dq (HS5.out.put HT5.out.1 HT5.out.2)
  clear HS5 HT5 HO HD
  have HS7:Hid (SrAt w mp M1 gm gx [.slice xa n0 xc,.slice pa np pc] (some ⟨gq,0,none⟩) 1 [first x b] ([first x b].map zed) V5):=dq (by
   have h:=HS6.out
   rw [HPT.out] at h
   exact h)
  clear HS6 HPT HKY
  have HSLIM:Hid (np≤8):=dq (by
   rw [←HNP.out,hx.out]
   have h:=(ha.out.each _ (zfR (HOK.out (first x b) (by simp)).read.ok)).trim.few
   simpa using h)
  go_loopw [10,11] (fun qv i wr=>∃ (k n:Nat) (qa:Option Addr) (qc:Nat) (Q:List Pr) (Mi:Mr) (f:Nat),k≤n∧qv=.slice qa n qc∧i=.int .i64 k∧Hid (Q.length=n)∧Hid (SrAt w mp Mi gm gx [.slice xa n0 xc,.slice pa np pc] qa qc Q (Q.map zed) wr)∧Hid (∀ z∈Q,PrOk a b j N z)∧Hid (zag x b f k Q Mi=some r)) (fun _ i _=>r.q.length+1-(intOf i).toNat)
  case atStart=>exact ⟨0,1,_,1,[first x b],M1,f,by omega,rfl,rfl,dq rfl,HS7,HOK,HSG⟩
  case round=>
   clear HS7 HOK HSG
   obtain ⟨k,n,qa,qc,Q,Mi,f,hk,rfl,rfl,HQN,HSW,HOK,HSG⟩:=hrel
   have hqle:=HSW.out.prs.le
   rw [HQN.out] at hqle
   by_cases hlt:k<n
   ·have hkq:k<Q.length:=by rw [HQN.out];exact hlt
    have HRQ:Hid (k<r.q.length):=dq (by
     obtain ⟨R,e⟩:=zdY _ _ _ _ _ HSG.out
     rw [e,List.length_append,HQN.out];omega)
    obtain ⟨gq',ca,cc,la,lc,wa,wc',e,q0,q1,q2,q3,hat⟩:=HSW.out.prs.look hkq
    subst e
    have HO1:=dq (HOK.out (prAt Q k) (by rw [zkQ hkq];exact List.getElem_mem _))
    have HNO1:=dq (fun h=>zma HSG.out hkq h)
    have HNO6:=dq (fun h h2=>zmS HSG.out hkq h h2)
    have HON:=dq (fun h h2=>zmT HSG.out hkq h h2)
    generalize prAt Q k=q at q0 q1 q2 q3 hat HO1 HNO1 HNO6 HON
    clear HSG hkq
    have bz:=below_alloc wr (.cells #[.slice ca q.c.length cc,.slice la q.l.length lc,.slice wa q.w.length wc',.int .i64 (q.n:Int)] 132)
    have HS8:=dq (HSW.out.below bz)
    have HBQ:Hid (BoxP w (some ⟨gq',0,none⟩) wr.heap.size ⟨ca,cc,la,lc,wa,wc',q⟩ (wr.alloc (.cells #[.slice ca q.c.length cc,.slice la q.l.length lc,.slice wa q.w.length wc',.int .i64 (q.n:Int)] 132))):=dq
     ⟨Lies.new _ _ _,HSW.out.kept.size,fun e=>Nat.lt_irrefl _ (HSW.out.prs.lt e),hat.below bz⟩
    clear hat bz HSW
    have i1:(0:Int)≤(k:Int):=by omega
    have i2:(k:Int)<(n:Int):=by omega
    generalize hu:q.c.length=u at q0 HS8 HBQ
    generalize hlu:q.l.length=lu at q1 HS8 HBQ
    generalize hwu:q.w.length=wu at q2 HS8 HBQ
    have HU:=dq hu
    have HLU:=dq hlu
    have HWU:=dq hwu
    clear hu hlu hwu
    go_upto_region 10 with (fail)
    go_cut [57] from 38 to 152 (fun v wx=>v=.bool (decide (u=0) && !finalL q.l)∧Hid (SrAt w mp Mi gm gx [.slice xa n0 xc,.slice pa np pc] (some ⟨gq',0,none⟩) qc Q (Q.map zed) wx)∧Hid (BoxP w (some ⟨gq',0,none⟩) wr.heap.size ⟨ca,cc,la,lc,wa,wc',q⟩ wx))
    case first=>
     generalize wr.alloc (.cells #[.slice ca u cc,.slice la lu lc,.slice wa wu wc',.int .i64 (q.n:Int)] 132)=W8 at HS8 HBQ ⊢
     have k0:=HBQ.out.lies.cell 0
     have k1:=HBQ.out.lies.cell 1
     simp only [Pb.cells,List.getElem?_cons_zero,List.getElem?_cons_succ] at k0 k1
     rw [HU.out] at k0
     rw [HLU.out] at k1
     have hll:=HBQ.out.holds.l.le
     have Z:=zlH la lc q.l W8 HBQ.out.holds.l
     have hll:lu≤lc∧lc≤9223372036854775807:=by rw [←HLU.out];exact hll
     rw [HLU.out] at Z
     have HZ:=dq Z
     clear Z
     by_cases h0:u=0
     ·subst h0
      go_wp2_with (fail)
      refine HZ.out.mono ?_
      rintro e W9 ⟨rfl,b9⟩
      have HS9:=dq (HS8.out.below b9)
      have HB9:=dq (HBQ.out.below b9)
      clear b9 HZ
      go_wp2
      go_meet
      exact ⟨by simp,HS9,HB9⟩
     ·have h0b:((u:Int)==0)=false:=by simp;omega
      go_wp2
      go_meet
      exact ⟨by simp [h0],HS8,HBQ⟩
    case rest=>
     obtain ⟨rfl,HS9,HB9⟩:=hcut
     generalize wc=W9 at HS9 HB9 ⊢
     clear HS8 HBQ q0 q1 q2 q3
     generalize wr.heap.size=g12 at HB9 ⊢
     have k2:=HB9.out.lies.cell 2
     have k3:=HB9.out.lies.cell 3
     simp only [Pb.cells,List.getElem?_cons_zero,List.getElem?_cons_succ] at k2 k3
     rw [HWU.out] at k2
     cases hfin:(decide (u=0) && !finalL q.l) with
     | true=>
      rw [Bool.and_eq_true,decide_eq_true_eq,Bool.not_eq_true'] at hfin
      have HR:=dq (HNO1.out ⟨List.eq_nil_of_length_eq_zero (HU.out.trans hfin.1),hfin.2⟩)
      clear hfin
      obtain ⟨v,W10,hr,a2,c2,e,r2,f2,b2⟩:=zcw 31 31 Tryz.underlying31 wa wc' q.w W9 HB9.out.holds.w (by have:=(zac.1 HO1.out.right).1;omega)
      injection e with e
      subst e
      have HF:Hid (zmU mp r w (.returned (.tuple #[.bool false,.slice a2 q.w.length c2,.int .i64 0])) W10):=dq (by
       rw [HR.out]
       exact ⟨a2,c2,rfl,r2,HS9.out.meter.below b2,HS9.out.kept.then b2⟩)
      rw [HWU.out] at hr HF
      clear r2 f2 b2
      go_wp2_with (at_builtin;refine Lib.wpList_append_run _ rfl _ _ _ _ rfl _ _ rfl rfl _ _ hr ?_)
      exact bodyPost_ret (v:=.tuple #[.bool false,.slice a2 wu c2,.int .i64 0]) (by simp [results,Tryz.results53,go_sem]) rfl HF.out
     | false=>
      have HNF:Hid (¬(q.c=[]∧finalL q.l=false)):=dq (fun ⟨h1,h2⟩=>by
       have h3:u=0:=by rw [←HU.out,h1];rfl
       rw [h2,h3] at hfin
       simp at hfin)
      clear hfin
      have x1:=HS9.out.box.cell 1
      simp only [List.getElem?_cons_zero,List.getElem?_cons_succ] at x1
      have hnp:¬(20:Int)<(np:Int):=by have:=HSLIM.out;omega
      by_cases h60:60≤q.n
      ·have h60b:(60:Int)≤(q.n:Int):=by omega
       have HR:=dq (HNO6.out HNF.out h60)
       have HF:Hid (zmU mp r w (.returned (.tuple #[.bool false,.slice none 0 0,.int .i64 3])) W9):=dq (by
        rw [HR.out]
        exact ⟨none,0,rfl,Bag.nil _,HS9.out.meter,HS9.out.kept⟩)
       go_wp2
       exact bodyPost_ret (v:=.tuple #[.bool false,.slice none 0 0,.int .i64 3]) (by simp [results,Tryz.results53,go_sem]) rfl HF.out
      ·have h60b:¬(60:Int)≤(q.n:Int):=by omega
       have HKD:=dq (HON.out HNF.out (by rw [HNP.out];have:=HSLIM.out;omega))
       clear HNO1 HNO6 HON HNF k2
       obtain ⟨P,hP⟩:∃ P:Nat,P=2 ^ np:=⟨_,rfl⟩
       have hPb:P≤256:=by rw [hP];exact Nat.le_trans (Nat.pow_le_pow_right (by omega) HSLIM.out) (by decide)
       have hw:wrap64 ((2:Int) ^ np)=(P:Int):=by
        have e:((2:Int) ^ np)=(P:Int):=by rw [hP];simp
        rw [e]
        exact IntWalk.wrap64_in _ (by omega)
       rw [HNP.out,←hP] at HKD
       clear hP
       have HW:=dq hw
       clear hw
       obtain ⟨KK,hKK⟩:∃ KK,KK=zal x b q P 0 Q Mi:=⟨_,rfl⟩
       rw [←hKK] at HKD
       have HKK:Hid (KK=zal x b q (P-0) 0 Q Mi):=dq hKK
       clear hKK
       go_wp2
       go_loopw [10,13] (fun qv mv wr=>∃ (m n:Nat) (qa:Option Addr) (qc:Nat) (Q:List Pr) (Mi:Mr),m≤P∧qv=.slice qa n qc∧mv=.int .i64 m∧Hid (Q.length=n)∧Hid (SrAt w mp Mi gm gx [.slice xa n0 xc,.slice pa np pc] qa qc Q (Q.map zed) wr)∧Hid (BoxP w qa g12 ⟨ca,cc,la,lc,wa,wc',q⟩ wr)∧Hid (∀ z∈Q,PrOk a b j N z)∧Hid (KK=zal x b q (P-m) m Q Mi)∧Hid (k+1≤n)) (fun _ mv _=>P-(intOf mv).toNat)
       case atStart=>exact ⟨0,n,_,qc,Q,Mi,Nat.zero_le _,rfl,rfl,HQN,HS9,HB9,HOK,HKK,dq hlt⟩
       case round=>
        clear HQN HS9 HB9 HOK HKK k3 x1 hqle i1 i2 hlt hk
        obtain ⟨m,n,qa,qc,Q,Mi,hm,rfl,rfl,HQN,HS9,HB9,HOK,HKK,HKN⟩:=hrel
        have hqle:=HS9.out.prs.le
        rw [HQN.out] at hqle
        have x1:=HS9.out.box.cell 1
        simp only [List.getElem?_cons_zero,List.getElem?_cons_succ] at x1
        by_cases hmP:m<P
        ·have i3:(0:Int)≤(m:Int):=by omega
         have i4:(m:Int)<(P:Int):=by omega
         have k0:=HB9.out.lies.cell 0
         simp only [Pb.cells,List.getElem?_cons_zero] at k0
         rw [HU.out] at k0
         have hw:=HW.out
         go_upto_region 17 with (fail)
         clear hw
         obtain ⟨c,hc,_⟩:=zip ha.out HO1.out.read.ok m
         have hc:chosenL q.c x.ps m=some c:=by rw [hx.out];simpa using hc
         have HCH:=dq hc
         have Z:=zjp ca pa cc pc q.c x.ps m wr HB9.out.holds.c (zr7 HMM.out HS9.out.kept HPX.out) (zbY HO1.out) (by rw [HNP.out];omega) (by omega)
         rw [hc,HU.out,HNP.out] at Z
         have Z:Calls Tryz.prog 82 #[.slice ca u cc,.slice pa np pc,.int .i64 (m:Int)] wr (fun e w'=>∃ a c',e=.returned (.tuple #[.slice a c.length c',.bool true])∧Bag w' a c' c∧zaa c=true∧From wr.heap.size a∧Below wr.heap.size wr w'):=Z
         have HZ:=dq Z
         clear Z hc
         go_wp2_with (fail)
         refine HZ.out.mono ?_
         clear HZ
         rintro e W1 ⟨a1,c1,rfl,r1,hrc,_,b1⟩
         have HRC:=dq hrc
         have hl1:=r1.le
         have HS1:=dq (HS9.out.below b1)
         have HB1:=dq (HB9.out.below b1)
         have Z:=zjo a1 c1 c W1 r1 hrc
         generalize hcl:c.length=cl at hl1 Z ⊢
         have HZ:=dq Z
         clear Z r1 b1 hrc HS9 HB9 x1 k0 hcl
         go_wp2_with (fail)
         refine HZ.out.mono ?_
         clear HZ
         rintro e W2 ⟨a2,c2,rfl,r2,_,b2⟩
         have hl2:=r2.le
         have HS2:=dq (HS1.out.below b2)
         have HB2:=dq (HB1.out.below b2)
         have HH2:=dq r2
         generalize hhl:(halfL c).length=hl at hl2 ⊢
         have HHL:=dq hhl
         have y1:=HB2.out.lies.cell 1
         simp only [Pb.cells,List.getElem?_cons_zero,List.getElem?_cons_succ] at y1
         rw [HLU.out] at y1
         have HST:=dq (zfa hb.out hN.out HO1.out)
         have Z:=zlM mp ba la bc lc Mi b q.l (zao c) W2 HS2.out.meter (Lins.mk HMM.out mtR HS2.out.kept HBS.out) HB2.out.holds.l (ze7 hb.out HST.out.1 HST.out.2)
         rw [HNB.out,HLU.out] at Z
         have HSO:=dq (zkS hb.out HST.out (zao c) Mi)
         have HPS:=dq (fun hn=>zl4 ha.out hb.out hN.out HO1.out hn (m:=m) (c:=c) (by rw [←hx.out];exact HCH.out))
         obtain ⟨nx,hnx⟩:∃ nx,nx=nextM Mi b q.l (zao c):=⟨_,rfl⟩
         have HNX:=dq hnx
         rw [←hnx] at Z HSO
         have HZ:=dq Z
         clear Z r2 b2 hhl HS1 HB1 hnx
         generalize hod:zao c=od at HZ ⊢
         have HOD:=dq hod
         clear hod
         go_wp2_with (fail)
         refine HZ.out.mono ?_
         clear HZ
         rintro e W3 ⟨a3,c3,rfl,I3,_,m3,k3⟩
         have HS3:=dq (HS2.out.spent m3 k3)
         have HB3:=dq (HB2.out.spent HS2.out k3)
         have HH3:=dq (HH2.out.farX k3 (zeM HS2.out.meter))
         have HI3:=dq I3
         have hl3:=I3.le
         clear I3 m3 k3 HS2 HB2 HH2 y1
         obtain ⟨y,ye,My⟩:=nx
         dsimp only at HS3 HI3 HSO hl3 ⊢
         generalize hyl:y.length=yl at hl3 ⊢
         have HYL:=dq hyl
         clear hyl
         have HPM:Hid (P-m=(P-m-1)+1):=dq (by omega)
         by_cases h0:ye=0
         ·subst h0
          have HPN:Hid (PrOk a b j N ⟨halfL c,y,zaf q.w (zao c) q.n,q.n+1⟩):=dq (by
           have e:=zgT (zao c) q.l Mi N hN.out (by rw [←HNX.out])
           rw [←HNX.out] at e
           have h:=HPS.out (by omega)
           rw [e] at h
           exact h)
          have HSY:=dq (HSO.out rfl)
          have k2:=HB3.out.lies.cell 2
          have k3:=HB3.out.lies.cell 3
          simp only [Pb.cells,List.getElem?_cons_zero,List.getElem?_cons_succ] at k2 k3
          rw [HWU.out] at k2
          have bz:=below_alloc W3 (.cells #[.slice a2 hl c2,.slice a3 yl c3,.slice wa wu wc',.int .i64 ((q.n:Int)+1)] 132)
          have HS4:=dq (HS3.out.below bz)
          have HB4:=dq (HB3.out.below bz)
          have HY4:Hid (BoxP w qa W3.heap.size ⟨a2,c2,a3,c3,wa,wc',⟨halfL c,y,q.w,q.n+1⟩⟩ (W3.alloc (.cells #[.slice a2 hl c2,.slice a3 yl c3,.slice wa wu wc',.int .i64 ((q.n:Int)+1)] 132))):=dq
           ⟨by
            have h:=Lies.new W3 132 [.slice a2 hl c2,.slice a3 yl c3,.slice wa wu wc',.int .i64 ((q.n:Int)+1)]
            rw [←HHL.out,←HYL.out,←HWU.out] at h ⊢
            exact h,HS3.out.kept.size,fun e=>Nat.lt_irrefl _ (HS3.out.prs.lt e),⟨HH3.out.below bz,HI3.out.below bz,HB3.out.holds.w.below bz⟩⟩
          have HGY:Hid (g12≠W3.heap.size):=dq (by have:=HB3.out.lies.lt;omega)
          clear HB3 HS3 bz HH3 HI3
          go_upto_region 25 with (fail)
          clear k2 k3
          generalize W3.alloc (.cells #[.slice a2 hl c2,.slice a3 yl c3,.slice wa wu wc',.int .i64 ((q.n:Int)+1)] 132)=W4 at HS4 HB4 HY4 ⊢
          generalize W3.heap.size=gy at HY4 HGY ⊢
          have y0:=HY4.out.lies.cell 0
          have y1:=HY4.out.lies.cell 1
          have y2:=HY4.out.lies.cell 2
          have y3:=HY4.out.lies.cell 3
          simp only [Pb.cells,List.getElem?_cons_zero,List.getElem?_cons_succ] at y0 y1 y2 y3
          rw [HHL.out] at y0
          rw [HYL.out] at y1
          rw [HWU.out] at y2
          have hst:=zfb hb.out HSY.out
          have Z:=zuG a2 a3 c2 c3 (halfL c) y (.slice wa wu wc') (.int .i64 ((q.n+1:Nat):Int)) W4 HY4.out.holds.c HY4.out.holds.l (dq (zbY HPN.out)) (dq hst.1) hst.2.2
          rw [HHL.out,HYL.out] at Z
          have HKY:=dq (zn4 (zbY HPN.out) hst.1 hst.2.2)
          have HIN:=dq (zr8 hb.out hN.out HOK.out HPN.out)
          have HPT:Hid (textB (halfL c) y=zed ⟨halfL c,y,zaf q.w (zao c) q.n,q.n+1⟩):=dq rfl
          obtain ⟨tx2,htx⟩:∃ t,t=textB (halfL c) y:=⟨_,rfl⟩
          have HTX:=dq htx
          rw [←htx] at Z HKY HPT
          have HZ:=dq Z
          clear Z hst htx
          go_wp2_with (fail)
          refine HZ.out.mono ?_
          clear HZ
          rintro e W5 ⟨rfl,b5⟩
          have HS5:=dq (HS4.out.below b5)
          have HB5:=dq (HB4.out.below b5)
          have HY5:=dq (HY4.out.below b5)
          clear b5 HS4 HB4 HY4 y0 y1 y2 y3
          obtain ⟨D,hown,hD⟩:=HS5.out.map
          have HO:=dq hown
          have HD:=dq (hD tx2)
          clear hown hD
          by_cases hmt:zkP Q (halfL c) y=true
          ·have hin:tx2∈Q.map zed:=by rw [HPT.out];exact HIN.out.2 hmt
           have HD1:Hid (D.atKey (.string tx2) (.lit (.int .i64 0))=.lit (.int .i64 1)):=dq (by have:=HD.out;rwa [if_pos hin] at this)
           have HK2:Hid (KK=zal x b q (P-(m+1)) (m+1) Q My):=dq (by
            rw [HKK.out,HPM.out,zdt HCH.out (by rw [←HNX.out]) (by rw [←HNX.out];exact hmt),←HNX.out,show P-m-1=P-(m+1) by omega])
           clear hin hmt
           go_wp2_with (at_lookup;refine wpList_lookup_own_int _ rfl _ _ 130 rfl 9 3 .i64 Tryz.law9s Tryz.underlying130 Tryz.underlying3 (Tryz.zero3s _) gm _ D rfl HO.out _ (.string tx2) rfl HKY.out ?_;intro cv hat hwc;(obtain rfl:cv=1:=by (rw [HD1.out] at hat;injection hat with hat;injection hat with _ hat;exact hat.symm));clear hat hwc)
           go_roundw
           case rel=>exact ⟨m+1,n,qa,qc,Q,My,by omega,rfl,by go_num,HQN,HS5,HB5,HOK,HK2,HKN⟩
           case measure=>simp [intOf];omega
          ·have hin:¬tx2∈Q.map zed:=fun h=>hmt (HIN.out.1 (by rw [←HPT.out];exact h))
           have HD1:Hid (D.atKey (.string tx2) (.lit (.int .i64 0))=.lit (.int .i64 0)):=dq (by have:=HD.out;rwa [if_neg hin] at this)
           have HMT:=dq hmt
           clear hin hmt
           go_wp2_with (at_lookup;refine wpList_lookup_own_int _ rfl _ _ 130 rfl 9 3 .i64 Tryz.law9s Tryz.underlying130 Tryz.underlying3 (Tryz.zero3s _) gm _ D rfl HO.out _ (.string tx2) rfl HKY.out ?_;intro cv hat hwc;(obtain rfl:cv=0:=by (rw [HD1.out] at hat;injection hat with hat;injection hat with _ hat;exact hat.symm));clear hat hwc)
           have Z:=zmN mp My 1 W5 HS5.out.meter
           unfold zch at Z
           obtain ⟨sp,hsp⟩:∃ sp,sp=spendM My 1:=⟨_,rfl⟩
           have HSP:=dq hsp
           rw [←hsp] at Z
           have HZ:=dq Z
           clear Z hsp HO HD HD1
           obtain ⟨sv,M6⟩:=sp
           refine HZ.out.mono ?_
           clear HZ
           rintro e W6 ⟨rfl,m6,k6⟩
           have HS6:=dq (HS5.out.spent m6 k6)
           have HB6:=dq (HB5.out.spent HS5.out k6)
           have HY6:=dq (HY5.out.spent HS5.out k6)
           clear m6 k6 HS5 HB5 HY5
           cases sv with
           | false=>
            have HF:Hid (zmU mp r w (.returned (.tuple #[.bool false,.slice none 0 0,.int .i64 7])) W6):=dq (by
             have e:=HKK.out
             rw [HPM.out,zbB HCH.out (by rw [←HNX.out]) (by rw [←HNX.out];exact HMT.out) (by rw [←HNX.out];show ¬(spendM My 1).1=true;rw [←HSP.out];simp),←HNX.out] at e
             have e:KK=(Q,7,(spendM My 1).2):=e
             rw [←HSP.out] at e
             have h:=HKD.out
             rw [e] at h
             have h:=h.resolve_left (fun h=>by have:=h.1;simp at this)
             rw [h.2]
             exact ⟨none,0,rfl,Bag.nil _,HS6.out.meter,HS6.out.kept⟩)
            go_wp2
            exact bodyPost_ret (v:=.tuple #[.bool false,.slice none 0 0,.int .i64 7]) (by simp [results,Tryz.results53,go_sem]) rfl HF.out
           | true=>
            have HK2:Hid (KK=zal x b q (P-(m+1)) (m+1) (Q++[⟨halfL c,y,zaf q.w (zao c) q.n,q.n+1⟩]) M6):=dq (by
             rw [HKK.out,HPM.out,zdu HCH.out (by rw [←HNX.out]) (by rw [←HNX.out];exact HMT.out) (by rw [←HNX.out];show (spendM My 1).1=true;rw [←HSP.out]),←HNX.out,show P-m-1=P-(m+1) by omega]
             show zal x b q (P-(m+1)) (m+1) (Q++[_]) (spendM My 1).2=_
             rw [←HSP.out])
            obtain ⟨D6,hown,hD⟩:=HS6.out.map
            have HO6:=dq hown
            have HD6:=dq hD
            have HTL:Hid ((Q.map zed).length=n):=dq (by rw [List.length_map,HQN.out])
            have hn9:n≤100000000000:=by
             have e:=HKK.out
             obtain ⟨R,eR⟩:=zeI x b q (P-m) m Q Mi
             rw [←e] at eR
             rcases HKD.out with ⟨_,f',hf'⟩ | ⟨_,hr'⟩
             ·obtain ⟨R2,e2⟩:=zdY _ _ _ _ _ hf'
              have:=congrArg List.length e2
              rw [eR,List.length_append,List.length_append,HQN.out] at this
              omega
             ·have h2:=congrArg (fun z=>z.q.length) hr'
              have h2:r.q.length=KK.1.length:=h2
              rw [eR,List.length_append,HQN.out] at h2
              omega
            clear hown hD
            go_wp2_with (at_mapUpdate;refine wpList_mapUpdate_own _ rfl _ _ _ 130 rfl 9 3 Tryz.law9s Tryz.underlying130 _ gm _ D6 rfl HO6.out (by rw [HTL.out];unfold maxLen;omega) _ _ (.string tx2) rfl rfl HKY.out (.lit (.int .i64 1)) [] (plainElem_int Tryz.underlying3 (WalkArith.wf_i64 (by omega))) ?_;intro W7 hown1 hgrow1;(have HT7:=dq (zl8 HO6.out HD6.out hown1 hgrow1));clear hown1 hgrow1)
            have HS7:=dq (HS6.out.put HT7.out.1 HT7.out.2)
            have HB7:=dq (HB6.out.put HS6.out HT7.out.2)
            have HY7:=dq (HY6.out.put HS6.out HT7.out.2)
            clear HS6 HB6 HY6 HO6 HD6 HT7
            have hodb:=zbw c
            have hcl12:c.length≤12:=(zac.1 HRC.out).1
            have hod0:0≤od∧od≤4095:=by
             have e1:(2:Nat) ^ c.length≤2 ^ 12:=Nat.pow_le_pow_right (by omega) hcl12
             have e2:(2:Int) ^ c.length=((2 ^ c.length:Nat):Int):=by simp
             have e3:od=packN c:=HOD.out.symm
             omega
            have HODB:=dq hod0
            have hn59:q.n≤59:=by omega
            have HN59:=dq hn59
            have HGOT:Hid (zcv od q.n (12-0) 0 q.w=zaf q.w od q.n):=dq rfl
            have HRW0:Hid (zaa q.w=true):=dq HO1.out.right
            clear hodb hcl12 hod0 hn59
            go_wp2
            go_loopw [22] (fun tv wr=>∃ (t:Nat) (aw:Option Addr) (cw:Nat) (wd:List Int),t≤12∧tv=.int .i64 t∧Hid (SrAt w mp M6 gm gx [.slice xa n0 xc,.slice pa np pc] qa qc Q (Q.map zed++[tx2]) wr)∧Hid (BoxP w qa g12 ⟨ca,cc,la,lc,wa,wc',q⟩ wr)∧Hid (BoxP w qa gy ⟨a2,c2,a3,c3,aw,cw,⟨halfL c,y,wd,q.n+1⟩⟩ wr)∧Hid (zcv od q.n (12-t) t wd=zaf q.w od q.n)) (fun tv _=>12-(intOf tv).toNat)
            case atStart=>exact ⟨0,wa,wc',q.w,Nat.zero_le _,rfl,HS7,HB7,HY7,HGOT⟩
            case round=>
             clear HS7 HB7 HY7 HGOT
             obtain ⟨t,aw,cw,wd,ht,rfl,HST,HBT,HYT,HGT⟩:=hrel
             by_cases ht12:t<12
             ·have i7:(t:Int)<12:=by omega
              have hbit:=ztS HODB.out.1 HODB.out.2 t
              by_cases hb1:od/2 ^ t % 2=1
              ·have hbb:(bits .and .u64 (od/2 ^ t) 1==1)=true:=by rw [hbit,hb1];rfl
               go_upto_region 34 with (fail)
               have b7:Below wr.heap.size wr wr.drew:=⟨rfl,rfl,rfl,Nat.le_refl _,fun _ _=>rfl⟩
               have HSV0:=dq (HST.out.below b7)
               have HQV0:=dq (HBT.out.below b7)
               have HYV0:=dq (HYT.out.below b7)
               have HXV0:Hid (Lies wr.drew g12 132 [.slice ca q.c.length cc,.slice la q.l.length lc,.slice wa q.w.length wc',.int .i64 (q.n:Int)]):=dq HQV0.out.lies
               have bd:=HXV0.out
               have hp59:=zl2 HN59.out
               have HW5:Hid (IntKind.u64.wrap (q.n:Int)=(q.n:Int)):=dq (by rw [IntKind.wrap_u64];omega)
               have HW6:Hid (IntKind.i64.wrap ((2:Int) ^ q.n)=(2:Int) ^ q.n):=dq (by rw [IntKind.wrap_i64];omega)
               have HG2:Hid (zcv od q.n (12-(t+1)) (t+1) (zbp wd (zc5 (t:Int) (2 ^ q.n)))=zaf q.w od q.n):=dq (by
                rw [←HGT.out,show 12-t=(12-(t+1))+1 by omega,zoQ hb1])
               obtain ⟨wdl,hwdl⟩:∃ l,l=wd.length:=⟨_,rfl⟩
               have HWD:Hid (wd.length=wdl):=dq hwdl.symm
               obtain ⟨ol,hol⟩:∃ l,l=(zc5 (t:Int) (2 ^ q.n)).length:=⟨_,rfl⟩
               have HOL:Hid ((zc5 (t:Int) (2 ^ q.n)).length=ol):=dq hol.symm
               clear b7 HST HBT HYT HGT hwdl hol hp59 hbit
               refine wp_region_held_drew (S:=fun V=>Lies V g12 132 [.slice ca q.c.length cc,.slice la q.l.length lc,.slice wa q.w.length wc',.int .i64 (q.n:Int)]) (by kernel_rfl) bd (fun hHeld=>?_)
               clear hHeld
               refine wpAnyH_take (i:=0) (oi:=⟨some 137,.fieldAddr 132 (.tmp 20) 2,0,"ref.go:671",#[],none⟩) (v:=?_) rfl (by kernel_rfl) (by kernel_rfl) (by kernel_rfl) (fun _ _ _ h=>h) (Or.inl ⟨by rfl,?_⟩) bd ?_
               rotate_left
               ·intro w hSw
                go_simp
                try with_reducible rfl
               try simp only [Act.put,List.setIfInBounds_toArray,List.set_cons_zero,List.set_cons_succ]
               refine wpAnyH_take (i:=2) (oi:=⟨some 139,.move (.tmp 22),3,"ref.go:671",#[],none⟩) (v:=?_) rfl (by kernel_rfl) (by kernel_rfl) (by kernel_rfl) (fun _ _ _ h=>h) (Or.inl ⟨by rfl,?_⟩) bd ?_
               rotate_left
               ·intro w hSw
                go_simp
                try with_reducible rfl
               try simp only [Act.put,List.setIfInBounds_toArray,List.set_cons_zero,List.set_cons_succ]
               refine wpAnyH_take (i:=3) (oi:=⟨some 140,.fieldAddr 132 (.tmp 12) 3,0,"ref.go:671",#[],none⟩) (v:=?_) rfl (by kernel_rfl) (by kernel_rfl) (by kernel_rfl) (fun _ _ _ h=>h) (Or.inl ⟨by rfl,?_⟩) bd ?_
               rotate_left
               ·intro w hSw
                go_simp
                try with_reducible rfl
               try simp only [Act.put,List.setIfInBounds_toArray,List.set_cons_zero,List.set_cons_succ]
               refine wpAnyH_take (i:=4) (oi:=⟨some 141,.load 3 (.tmp 140),3,"ref.go:671",#[⟨3,.data⟩],none⟩) (v:=?_) rfl (by kernel_rfl) (by kernel_rfl) (by kernel_rfl) (fun _ _ _ h=>h) (Or.inl ⟨by rfl,?_⟩) bd ?_
               rotate_left
               ·intro w hSw
                have k3:=hSw.cell 3
                simp only [List.getElem?_cons_zero,List.getElem?_cons_succ] at k3
                go_simp
                try with_reducible rfl
               try simp only [Act.put,List.setIfInBounds_toArray,List.set_cons_zero,List.set_cons_succ]
               refine wpAnyH_take (i:=5) (oi:=⟨some 142,.convert 3 82 (.tmp 141),82,"ref.go:671",#[⟨4,.data⟩],none⟩) (v:=.int .u64 (q.n:Int)) rfl (by kernel_rfl) (by kernel_rfl) (by kernel_rfl) (fun _ _ _ h=>h) (Or.inl ⟨by rfl,?_⟩) bd ?_
               ·intro w hSw
                go_simp
                exact HW5.out
               try simp only [Act.put,List.setIfInBounds_toArray,List.set_cons_zero,List.set_cons_succ]
               refine wpAnyH_take (i:=6) (oi:=⟨some 143,.binOp .shl 3 (.const (.int .i64 1)) (.tmp 142) 82,3,"ref.go:671",#[⟨5,.data⟩],none⟩) (v:=.int .i64 ((2:Int) ^ q.n)) rfl (by kernel_rfl) (by kernel_rfl) (by kernel_rfl) (fun _ _ _ h=>h) (Or.inl ⟨by rfl,?_⟩) bd ?_
               ·intro w hSw
                go_simp
                exact HW6.out
               try simp only [Act.put,List.setIfInBounds_toArray,List.set_cons_zero,List.set_cons_succ]
               clear bd
               generalize wr.drew=V0 at HSV0 HQV0 HYV0 HXV0 ⊢
               refine wpAnyH_ready (rs:=[1,7]) (by kernel_rfl) (by simp) ?_
               refine AllReadyH.cons (o:=⟨some 138,.load 31 (.tmp 137),31,"ref.go:671",#[⟨0,.data⟩],none⟩) rfl (fun K hK=>?_) ?_
               ·have yl:=HYV0.out.lies.cell 2
                simp only [Pb.cells,List.getElem?_cons_zero,List.getElem?_cons_succ] at yl
                rw [HWD.out] at yl
                go_simp
                refine hK.out _ _ HXV0.out (fun hHeld=>?_)
                clear yl
                clear hK K hHeld
                try simp only [Act.put,List.setIfInBounds_toArray,List.set_cons_zero,List.set_cons_succ]
                refine wpAnyH_ready (rs:=[7]) (by kernel_rfl) (by simp) ?_
                refine AllReadyH.cons (o:=⟨some 144,.call {callee:=.value (.func 65),args:=#[.tmp 139,.tmp 143],argTypes:=#[3,3]},31,"ref.go:671",#[⟨2,.data⟩,⟨6,.data⟩],none⟩) rfl (fun K hK=>?_) AllReadyH.nil
                have Z:=zsA (t:Int) (2 ^ q.n) V0
                go_simp
                refine Z.mono ?_
                clear Z
                rintro e V8 ⟨a8,c8,rfl,B8,_,b8⟩
                have HSV8:=dq (HSV0.out.below b8)
                have HQV8:=dq (HQV0.out.below b8)
                have HYV8:=dq (HYV0.out.below b8)
                have HXV8:=dq (HXV0.out.below b8 HXV0.out.lt)
                have HB8:=dq B8
                have hl8:=B8.le
                rw [HOL.out] at hl8
                rw [HOL.out]
                clear B8 b8
                go_wp2_with (fail)
                refine hK.out _ _ HXV8.out (fun hHeld=>?_)
                clear hK K hHeld
                try simp only [Act.put,List.setIfInBounds_toArray,List.set_cons_zero,List.set_cons_succ]
                refine wpAnyH_ready (rs:=[8]) (by kernel_rfl) (by simp) ?_
                refine AllReadyH.cons (o:=⟨some 145,.call {callee:=.value (.func 55),args:=#[.tmp 138,.tmp 144],argTypes:=#[31,31]},90,"ref.go:671",#[⟨1,.data⟩,⟨7,.data⟩,⟨7,.chain⟩],none⟩) rfl (fun K hK=>?_) AllReadyH.nil
                have Z:=zrq aw a8 cw c8 wd (zc5 (t:Int) (2 ^ q.n)) V8 HYV8.out.holds.w HB8.out
                rw [HWD.out,HOL.out] at Z
                go_simp
                refine Z.mono ?_
                clear Z
                rintro e V9 ⟨a9,c9,rfl,B9,_,b9⟩
                have HS9:=dq (HSV8.out.below b9)
                have HQ9:=dq (HQV8.out.below b9)
                have HY9:=dq (HYV8.out.below b9)
                have HX9:=dq (HXV8.out.below b9 HXV8.out.lt)
                have HB9:=dq B9
                have hl9:=B9.le
                have HADD:Hid (zbp wd (zc5 (t:Int) (2 ^ q.n))=zbp wd (zc5 (t:Int) (2 ^ q.n))):=dq rfl
                have y9:=HY9.out.lies.cell 2
                simp only [Pb.cells,List.getElem?_cons_zero,List.getElem?_cons_succ] at y9
                rw [HWD.out] at y9
                have fz9:=HY9.out.lies.frozen 2
                have HSF:Hid (SrAt w mp M6 gm gx [.slice xa n0 xc,.slice pa np pc] qa qc Q (Q.map zed++[tx2]) (V9.setCell ⟨gy,2,none⟩ (.slice a9 (zbp wd (zc5 (t:Int) (2 ^ q.n))).length c9))):=dq (HS9.out.other HY9.out.lies HY9.out.new HY9.out.ne (zgy V9 gy _))
                have HQF:Hid (BoxP w qa g12 ⟨ca,cc,la,lc,wa,wc',q⟩ (V9.setCell ⟨gy,2,none⟩ (.slice a9 (zbp wd (zc5 (t:Int) (2 ^ q.n))).length c9))):=dq (HQ9.out.other HY9.out HGY.out (zgy V9 gy _))
                have HYF:Hid (BoxP w qa gy ⟨a2,c2,a3,c3,a9,c9,⟨halfL c,y,zbp wd (zc5 (t:Int) (2 ^ q.n)),q.n+1⟩⟩ (V9.setCell ⟨gy,2,none⟩ (.slice a9 (zbp wd (zc5 (t:Int) (2 ^ q.n))).length c9))):=dq (HY9.out.word HB9.out)
                have HXF:Hid (Lies (V9.setCell ⟨gy,2,none⟩ (.slice a9 (zbp wd (zc5 (t:Int) (2 ^ q.n))).length c9)) g12 132 [.slice ca q.c.length cc,.slice la q.l.length lc,.slice wa q.w.length wc',.int .i64 (q.n:Int)]):=dq HQF.out.lies
                generalize (zbp wd (zc5 (t:Int) (2 ^ q.n))).length=al at hl9 HSF HQF HYF HXF ⊢
                clear B9 b9 HS9 HQ9 HY9 HB9 HSV8 HQV8 HYV8
                go_wp2_with (fail)
                refine hK.out _ _ HX9.out (fun hHeld=>?_)
                clear hK K hHeld
                try simp only [Act.put,List.setIfInBounds_toArray,List.set_cons_zero,List.set_cons_succ]
                refine wpAnyH_take (i:=9) (oi:=⟨some 136,.move (.tmp 145),90,"ref.go:671",#[⟨8,.data⟩],none⟩) (v:=?_) rfl (by kernel_rfl) (by kernel_rfl) (by kernel_rfl) (fun _ _ _ h=>h) (Or.inl ⟨by rfl,?_⟩) HX9.out ?_
                rotate_left
                ·intro w hSw
                 go_simp
                 try with_reducible rfl
                try simp only [Act.put,List.setIfInBounds_toArray,List.set_cons_zero,List.set_cons_succ]
                refine wpAnyH_take (i:=10) (oi:=⟨some 146,.extract (.tmp 136) 0,31,"ref.go:671",#[⟨9,.data⟩],none⟩) (v:=?_) rfl (by kernel_rfl) (by kernel_rfl) (by kernel_rfl) (fun _ _ _ h=>h) (Or.inl ⟨by rfl,?_⟩) HX9.out ?_
                rotate_left
                ·intro w hSw
                 go_simp
                 try with_reducible rfl
                try simp only [Act.put,List.setIfInBounds_toArray,List.set_cons_zero,List.set_cons_succ]
                refine wpAnyH_take (i:=11) (oi:=⟨some 147,.extract (.tmp 136) 1,4,"ref.go:671",#[⟨9,.data⟩,{on:=13,ground:=Ground.gcOnly Departure.lateStores}],none⟩) (v:=?_) rfl (by kernel_rfl) (by kernel_rfl) (by kernel_rfl) (fun _ _ _ h=>h) (Or.inl ⟨by rfl,?_⟩) HX9.out ?_
                rotate_left
                ·intro w hSw
                 go_simp
                 try with_reducible rfl
                try simp only [Act.put,List.setIfInBounds_toArray,List.set_cons_zero,List.set_cons_succ]
                refine wpAnyH_take (i:=12) (oi:=⟨some 148,.fieldAddr 132 (.tmp 20) 2,0,"ref.go:671",#[⟨0,.phase⟩,⟨1,.phase⟩,⟨2,.phase⟩,⟨3,.phase⟩,⟨4,.phase⟩,⟨5,.phase⟩,⟨6,.phase⟩,⟨7,.phase⟩,⟨8,.phase⟩,⟨9,.phase⟩,⟨10,.phase⟩,{on:=11,ground:=Ground.textOnly Departure.lateStores}],none⟩) (v:=?_) rfl (by kernel_rfl) (by kernel_rfl) (by kernel_rfl) (fun _ _ _ h=>h) (Or.inl ⟨by rfl,?_⟩) HX9.out ?_
                rotate_left
                ·intro w hSw
                 go_simp
                 try with_reducible rfl
                try simp only [Act.put,List.setIfInBounds_toArray,List.set_cons_zero,List.set_cons_succ]
                refine wpAnyH_ready (rs:=[13]) (by kernel_rfl) (by simp) ?_
                refine AllReadyH.cons (o:=⟨none,.store 31 (.tmp 148) (.tmp 146),0,"ref.go:671",#[⟨12,.data⟩,⟨10,.data⟩,⟨8,.chain⟩,⟨0,.phase⟩,⟨1,.phase⟩,⟨2,.phase⟩,⟨3,.phase⟩,⟨4,.phase⟩,⟨5,.phase⟩,⟨6,.phase⟩,⟨7,.phase⟩,⟨8,.phase⟩,⟨9,.phase⟩,⟨10,.phase⟩,{on:=11,ground:=Ground.textOnly Departure.lateStores}],none⟩) rfl (fun K hK=>?_) AllReadyH.nil
                go_simp
                refine hK.out _ _ HXF.out (fun hHeld=>?_)
                clear hK K hHeld
                try simp only [Act.put,List.setIfInBounds_toArray,List.set_cons_zero,List.set_cons_succ]
                refine wpAnyH_done (by kernel_rfl) ?_ _
                go_wp2
                go_roundw
                case rel=>exact ⟨t+1,a9,c9,_,by omega,by go_num,HSF,HQF,HYF,HG2⟩
                case measure=>simp [intOf];omega
               refine AllReadyH.cons (o:=⟨some 144,.call {callee:=.value (.func 65),args:=#[.tmp 139,.tmp 143],argTypes:=#[3,3]},31,"ref.go:671",#[⟨2,.data⟩,⟨6,.data⟩],none⟩) rfl (fun K hK=>?_) AllReadyH.nil
               have Z:=zsA (t:Int) (2 ^ q.n) V0
               go_simp
               refine Z.mono ?_
               clear Z
               rintro e V8 ⟨a8,c8,rfl,B8,_,b8⟩
               have HSV8:=dq (HSV0.out.below b8)
               have HQV8:=dq (HQV0.out.below b8)
               have HYV8:=dq (HYV0.out.below b8)
               have HXV8:=dq (HXV0.out.below b8 HXV0.out.lt)
               have HB8:=dq B8
               have hl8:=B8.le
               rw [HOL.out] at hl8
               rw [HOL.out]
               clear B8 b8
               go_wp2_with (fail)
               refine hK.out _ _ HXV8.out (fun hHeld=>?_)
               clear hK K hHeld
               try simp only [Act.put,List.setIfInBounds_toArray,List.set_cons_zero,List.set_cons_succ]
               refine wpAnyH_ready (rs:=[1]) (by kernel_rfl) (by simp) ?_
               refine AllReadyH.cons (o:=⟨some 138,.load 31 (.tmp 137),31,"ref.go:671",#[⟨0,.data⟩],none⟩) rfl (fun K hK=>?_) AllReadyH.nil
               have yl:=HYV8.out.lies.cell 2
               simp only [Pb.cells,List.getElem?_cons_zero,List.getElem?_cons_succ] at yl
               rw [HWD.out] at yl
               go_simp
               refine hK.out _ _ HXV8.out (fun hHeld=>?_)
               clear yl
               clear hK K hHeld
               try simp only [Act.put,List.setIfInBounds_toArray,List.set_cons_zero,List.set_cons_succ]
               refine wpAnyH_ready (rs:=[8]) (by kernel_rfl) (by simp) ?_
               refine AllReadyH.cons (o:=⟨some 145,.call {callee:=.value (.func 55),args:=#[.tmp 138,.tmp 144],argTypes:=#[31,31]},90,"ref.go:671",#[⟨1,.data⟩,⟨7,.data⟩,⟨7,.chain⟩],none⟩) rfl (fun K hK=>?_) AllReadyH.nil
               have Z:=zrq aw a8 cw c8 wd (zc5 (t:Int) (2 ^ q.n)) V8 HYV8.out.holds.w HB8.out
               rw [HWD.out,HOL.out] at Z
               go_simp
               refine Z.mono ?_
               clear Z
               rintro e V9 ⟨a9,c9,rfl,B9,_,b9⟩
               have HS9:=dq (HSV8.out.below b9)
               have HQ9:=dq (HQV8.out.below b9)
               have HY9:=dq (HYV8.out.below b9)
               have HX9:=dq (HXV8.out.below b9 HXV8.out.lt)
               have HB9:=dq B9
               have hl9:=B9.le
               have HADD:Hid (zbp wd (zc5 (t:Int) (2 ^ q.n))=zbp wd (zc5 (t:Int) (2 ^ q.n))):=dq rfl
               have y9:=HY9.out.lies.cell 2
               simp only [Pb.cells,List.getElem?_cons_zero,List.getElem?_cons_succ] at y9
               rw [HWD.out] at y9
               have fz9:=HY9.out.lies.frozen 2
               have HSF:Hid (SrAt w mp M6 gm gx [.slice xa n0 xc,.slice pa np pc] qa qc Q (Q.map zed++[tx2]) (V9.setCell ⟨gy,2,none⟩ (.slice a9 (zbp wd (zc5 (t:Int) (2 ^ q.n))).length c9))):=dq (HS9.out.other HY9.out.lies HY9.out.new HY9.out.ne (zgy V9 gy _))
               have HQF:Hid (BoxP w qa g12 ⟨ca,cc,la,lc,wa,wc',q⟩ (V9.setCell ⟨gy,2,none⟩ (.slice a9 (zbp wd (zc5 (t:Int) (2 ^ q.n))).length c9))):=dq (HQ9.out.other HY9.out HGY.out (zgy V9 gy _))
               have HYF:Hid (BoxP w qa gy ⟨a2,c2,a3,c3,a9,c9,⟨halfL c,y,zbp wd (zc5 (t:Int) (2 ^ q.n)),q.n+1⟩⟩ (V9.setCell ⟨gy,2,none⟩ (.slice a9 (zbp wd (zc5 (t:Int) (2 ^ q.n))).length c9))):=dq (HY9.out.word HB9.out)
               have HXF:Hid (Lies (V9.setCell ⟨gy,2,none⟩ (.slice a9 (zbp wd (zc5 (t:Int) (2 ^ q.n))).length c9)) g12 132 [.slice ca q.c.length cc,.slice la q.l.length lc,.slice wa q.w.length wc',.int .i64 (q.n:Int)]):=dq HQF.out.lies
               generalize (zbp wd (zc5 (t:Int) (2 ^ q.n))).length=al at hl9 HSF HQF HYF HXF ⊢
               clear B9 b9 HS9 HQ9 HY9 HB9 HSV8 HQV8 HYV8
               go_wp2_with (fail)
               refine hK.out _ _ HX9.out (fun hHeld=>?_)
               clear hK K hHeld
               try simp only [Act.put,List.setIfInBounds_toArray,List.set_cons_zero,List.set_cons_succ]
               refine wpAnyH_take (i:=9) (oi:=⟨some 136,.move (.tmp 145),90,"ref.go:671",#[⟨8,.data⟩],none⟩) (v:=?_) rfl (by kernel_rfl) (by kernel_rfl) (by kernel_rfl) (fun _ _ _ h=>h) (Or.inl ⟨by rfl,?_⟩) HX9.out ?_
               rotate_left
               ·intro w hSw
                go_simp
                try with_reducible rfl
               try simp only [Act.put,List.setIfInBounds_toArray,List.set_cons_zero,List.set_cons_succ]
               refine wpAnyH_take (i:=10) (oi:=⟨some 146,.extract (.tmp 136) 0,31,"ref.go:671",#[⟨9,.data⟩],none⟩) (v:=?_) rfl (by kernel_rfl) (by kernel_rfl) (by kernel_rfl) (fun _ _ _ h=>h) (Or.inl ⟨by rfl,?_⟩) HX9.out ?_
               rotate_left
               ·intro w hSw
                go_simp
                try with_reducible rfl
               try simp only [Act.put,List.setIfInBounds_toArray,List.set_cons_zero,List.set_cons_succ]
               refine wpAnyH_take (i:=11) (oi:=⟨some 147,.extract (.tmp 136) 1,4,"ref.go:671",#[⟨9,.data⟩,{on:=13,ground:=Ground.gcOnly Departure.lateStores}],none⟩) (v:=?_) rfl (by kernel_rfl) (by kernel_rfl) (by kernel_rfl) (fun _ _ _ h=>h) (Or.inl ⟨by rfl,?_⟩) HX9.out ?_
               rotate_left
               ·intro w hSw
                go_simp
                try with_reducible rfl
               try simp only [Act.put,List.setIfInBounds_toArray,List.set_cons_zero,List.set_cons_succ]
               refine wpAnyH_take (i:=12) (oi:=⟨some 148,.fieldAddr 132 (.tmp 20) 2,0,"ref.go:671",#[⟨0,.phase⟩,⟨1,.phase⟩,⟨2,.phase⟩,⟨3,.phase⟩,⟨4,.phase⟩,⟨5,.phase⟩,⟨6,.phase⟩,⟨7,.phase⟩,⟨8,.phase⟩,⟨9,.phase⟩,⟨10,.phase⟩,{on:=11,ground:=Ground.textOnly Departure.lateStores}],none⟩) (v:=?_) rfl (by kernel_rfl) (by kernel_rfl) (by kernel_rfl) (fun _ _ _ h=>h) (Or.inl ⟨by rfl,?_⟩) HX9.out ?_
               rotate_left
               ·intro w hSw
                go_simp
                try with_reducible rfl
               try simp only [Act.put,List.setIfInBounds_toArray,List.set_cons_zero,List.set_cons_succ]
               refine wpAnyH_ready (rs:=[13]) (by kernel_rfl) (by simp) ?_
               refine AllReadyH.cons (o:=⟨none,.store 31 (.tmp 148) (.tmp 146),0,"ref.go:671",#[⟨12,.data⟩,⟨10,.data⟩,⟨8,.chain⟩,⟨0,.phase⟩,⟨1,.phase⟩,⟨2,.phase⟩,⟨3,.phase⟩,⟨4,.phase⟩,⟨5,.phase⟩,⟨6,.phase⟩,⟨7,.phase⟩,⟨8,.phase⟩,⟨9,.phase⟩,⟨10,.phase⟩,{on:=11,ground:=Ground.textOnly Departure.lateStores}],none⟩) rfl (fun K hK=>?_) AllReadyH.nil
               go_simp
               refine hK.out _ _ HXF.out (fun hHeld=>?_)
               clear hK K hHeld
               try simp only [Act.put,List.setIfInBounds_toArray,List.set_cons_zero,List.set_cons_succ]
               refine wpAnyH_done (by kernel_rfl) ?_ _
               go_wp2
               go_roundw
               case rel=>exact ⟨t+1,a9,c9,_,by omega,by go_num,HSF,HQF,HYF,HG2⟩
               case measure=>simp [intOf];omega
              ·have hbb:(bits .and .u64 (od/2 ^ t) 1==1)=false:=by rw [hbit];simpa using hb1
               have HG2:Hid (zcv od q.n (12-(t+1)) (t+1) wd=zaf q.w od q.n):=dq (by
                rw [←HGT.out,show 12-t=(12-(t+1))+1 by omega,zqM hb1])
               clear HGT hbit
               go_wp2
               go_roundw
               case rel=>exact ⟨t+1,aw,cw,wd,by omega,by go_num,HST,HBT,HYT,HG2⟩
               case measure=>simp [intOf];omega
             ·obtain rfl:t=12:=by omega
              have hwd:wd=zaf q.w (zao c) q.n:=by rw [HOD.out];exact HGT.out
              subst hwd
              have z0:=HYT.out.lies.cell 0
              have z1:=HYT.out.lies.cell 1
              have z2:=HYT.out.lies.cell 2
              have z3:=HYT.out.lies.cell 3
              simp only [Pb.cells,List.getElem?_cons_zero,List.getElem?_cons_succ] at z0 z1 z2 z3
              have HNW:Hid (PbAt wr ⟨a2,c2,a3,c3,aw,cw,⟨halfL c,y,zaf q.w (zao c) q.n,q.n+1⟩⟩):=dq HYT.out.holds
              have hlw:=HYT.out.holds.w.le
              have HFIN:Hid (∃ a9 c9 V9,(Builtin.append_ #[133,133] 133 #[.slice qa n qc,.slice (some ⟨wr.heap.size,0,none⟩) 1 1]).run Tryz.prog (wr.alloc (.cells #[.slice a2 (halfL c).length c2,.slice a3 y.length c3,.slice aw (zaf q.w (zao c) q.n).length cw,.int .i64 ((q.n+1:Nat):Int)] 132))=.ok (.slice a9 (n+1) c9) V9∧
                Hid (SrAt w mp M6 gm gx [.slice xa n0 xc,.slice pa np pc] a9 c9 (Q++[(⟨halfL c,y,zaf q.w (zao c) q.n,q.n+1⟩:Pr)]) ((Q++[(⟨halfL c,y,zaf q.w (zao c) q.n,q.n+1⟩:Pr)]).map zed) V9)∧Hid (BoxP w a9 g12 ⟨ca,cc,la,lc,wa,wc',q⟩ V9)∧n+1≤c9∧c9≤9223372036854775807):=dq (by
               have bz:=below_alloc wr (.cells #[.slice a2 (halfL c).length c2,.slice a3 y.length c3,.slice aw (zaf q.w (zao c) q.n).length cw,.int .i64 ((q.n+1:Nat):Int)] 132)
               have hs:=HST.out.below bz
               have hb:=HBT.out.below bz
               have hl:=Lies.new wr 132 [.slice a2 (halfL c).length c2,.slice a3 y.length c3,.slice aw (zaf q.w (zao c) q.n).length cw,.int .i64 ((q.n+1:Nat):Int)]
               obtain ⟨ls,hls,hQ⟩:=hs.prs
               have hdl:ls.length=n:=by rw [←zkT ls,hls,HQN.out]
               have hrow:=hQ.row
               rw [hdl] at hrow
               obtain ⟨v9,V9,hr,A⟩:=zl6 133 133 Tryz.underlying133 qa qc n (zfT ls) _ hrow ⟨wr.heap.size,0,none⟩ 1 1 (Pb.cells (⟨a2,c2,a3,c3,aw,cw,⟨halfL c,y,zaf q.w (zao c) q.n,q.n+1⟩⟩:Pb)) rfl (fun j u hj=>by
                rw [Addr.add_lit]
                have h:=hl.cell (0+j)
                rw [h,←hj,Nat.zero_add]
                rfl) (fun u hu=>by
                simp only [Pb.cells,List.mem_cons,List.not_mem_nil,or_false] at hu
                rcases hu with rfl | rfl | rfl | rfl<;>rfl) (by omega)
               obtain ⟨a9,c9,rfl,r9,k9,f9⟩:=zr5 (l:=⟨a2,c2,a3,c3,aw,cw,⟨halfL c,y,zaf q.w (zao c) q.n,q.n+1⟩⟩) (n:=n) hls hQ (HNW.out.below bz) HQN.out A
               have hle:=r9.le
               have hn1:(Q++[(⟨halfL c,y,zaf q.w (zao c) q.n,q.n+1⟩:Pr)]).length=n+1:=by rw [List.length_append,HQN.out];rfl
               rw [hn1] at hle
               refine ⟨a9,c9,V9,hr,dq ?_,dq (hb.push hs k9 f9),hle.1,hle.2⟩
               have e1:(Q++[(⟨halfL c,y,zaf q.w (zao c) q.n,q.n+1⟩:Pr)]).map zed=Q.map zed++[tx2]:=by
                rw [List.map_append,List.map_cons,List.map_nil,HPT.out]
               rw [e1]
               exact hs.push r9 k9 f9)
              obtain ⟨a9,c9,V9,hr9,HS9,HB9,hl91,hl92⟩:=HFIN.out
              have HOK9:Hid (∀ z∈Q++[(⟨halfL c,y,zaf q.w (zao c) q.n,q.n+1⟩:Pr)],PrOk a b j N z):=dq (fun z hz=>by
               rcases List.mem_append.1 hz with hz | hz
               ·exact HOK.out z hz
               ·rw [List.mem_singleton] at hz;subst hz;exact HPN.out)
              have HQN9:Hid ((Q++[(⟨halfL c,y,zaf q.w (zao c) q.n,q.n+1⟩:Pr)]).length=n+1):=dq (by rw [List.length_append,HQN.out];rfl)
              have HKN9:Hid (k<n+1):=dq (by have:=HKN.out;omega)
              generalize (halfL c).length=hl' at z0 hr9
              generalize y.length=yl' at z1 hr9
              generalize (zaf q.w (zao c) q.n).length=wl' at z2 hr9
              clear HFIN HST HBT HYT HGT HNW hlw
              go_wp2_with (at_builtin;refine Lib.wpList_append_run _ rfl _ _ _ _ rfl _ _ rfl rfl _ _ hr9 ?_)
              go_roundw
              case rel=>exact ⟨m+1,n+1,a9,c9,_,M6,by omega,rfl,by go_num,HQN9,HS9,HB9,HOK9,HK2,HKN9⟩
              case measure=>simp [intOf];omega
         ·have HF:Hid (zmU mp r w (.returned (.tuple #[.bool false,.slice none 0 0,.int .i64 ye])) W3):=dq (by
           have e:=HKK.out
           rw [HPM.out,zcA HCH.out (by rw [←HNX.out];exact h0),←HNX.out] at e
           have h:=HKD.out
           rw [e] at h
           have h:=h.resolve_left (fun h=>h0 h.1)
           rw [h.2]
           exact ⟨none,0,rfl,Bag.nil _,HS3.out.meter,HS3.out.kept⟩)
          go_wp2
          exact bodyPost_ret (v:=.tuple #[.bool false,.slice none 0 0,.int .i64 ye]) (by simp [results,Tryz.results53,go_sem]) rfl HF.out
        ·obtain rfl:m=P:=by omega
         obtain ⟨_,f',hf'⟩:=HKD.out.resolve_right (fun h=>h.1 (by rw [HKK.out,Nat.sub_self];rfl))
         have HSG:Hid (zag x b f' (k+1) Q Mi=some r):=dq (by
          have e:=HKK.out
          rw [Nat.sub_self] at e
          have e:KK=(Q,0,Mi):=e
          rw [e] at hf'
          exact hf')
         clear hf'
         have hkr:=HRQ.out
         have hw:=HW.out
         go_wp2
         clear hw
         go_roundw
         case rel=>exact ⟨k+1,n,qa,qc,Q,Mi,f',HKN.out,rfl,by go_num,HQN,HS9,HOK,HSG⟩
         case measure=>simp [intOf];omega
   ·obtain rfl:k=n:=by omega
    have HF:Hid (zmU mp r w (.returned (.tuple #[.bool true,.slice none 0 0,.int .i64 0])) wr):=dq (by
     have h:=zl9 HSG.out (by rw [HQN.out];omega)
     rw [h]
     exact ⟨none,0,rfl,Bag.nil _,HSW.out.meter,HSW.out.kept⟩)
    go_wp2
    exact bodyPost_ret (v:=.tuple #[.bool true,.slice none 0 0,.int .i64 0]) (by simp [results,Tryz.results53,go_sem]) rfl HF.out
end Go.Proofs.YtmnkjekjknhhjaaGreatDoor
