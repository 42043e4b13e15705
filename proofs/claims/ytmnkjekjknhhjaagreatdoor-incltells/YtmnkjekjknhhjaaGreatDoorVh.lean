import Derived.Test.YtmnkjekjknhhjaaGreatDoorVc
import Derived.Deep.RegionHeld3
import Derived.Deep.AppendLies
namespace Go.Proofs.YtmnkjekjknhhjaaGreatDoor
open Go.ChangeShapes Go.WideShapes Go.ChangeAt Go.RowKit
def ztq:Oper:=⟨some 19,.move (.tmp 0),77,"auto.go:99",#[],none⟩
def ztr:Oper:=⟨some 20,.fieldAddr 111 (.tmp 5) 0,0,"auto.go:99",#[],none⟩
def zts:Oper:=⟨some 21,.load 3 (.tmp 20),3,"auto.go:99",#[⟨1,.data⟩],none⟩
def ztt:Oper:=⟨some 22,.fieldAddr 111 (.tmp 5) 1,0,"auto.go:99",#[],none⟩
def ztu:Oper:=⟨some 23,.load 31 (.tmp 22),31,"auto.go:99",#[⟨3,.data⟩],none⟩
def ztv:Oper:=⟨some 24,.call {callee:=.value (.func 134),args:=#[.tmp 23],argTypes:=#[31]},31,"auto.go:99",#[⟨4,.data⟩],none⟩
def ztw:Oper:=⟨some 25,.build 111 #[(0,.tmp 21),(1,.tmp 24)],111,"auto.go:99",#[⟨2,.data⟩,⟨5,.data⟩],none⟩
def ztx:Oper:=⟨some 26,.buildSlice 77 1 #[(0,.tmp 25)],77,"auto.go:99",#[⟨6,.data⟩],none⟩
def zuE:Oper:=⟨some 27,.call {callee:=.builtin .append,args:=#[.tmp 19,.tmp 26],argTypes:=#[77,77]},77,"auto.go:99",#[⟨0,.data⟩,⟨7,.data⟩,⟨5,.chain⟩],none⟩
def zty:Oper:=⟨some 0,.assign (.tmp 27),77,"auto.go:99",#[⟨8,.data⟩,⟨8,.chain⟩,⟨0,.phase⟩,⟨1,.phase⟩,⟨2,.phase⟩,⟨3,.phase⟩,⟨4,.phase⟩,⟨5,.phase⟩,⟨6,.phase⟩,⟨7,.phase⟩,⟨8,.phase⟩],none⟩
def choicesL (j letter:Int):List (List Int)→List Int→Option (List It)
 | [],c=>some (if zao c=letter then [⟨j,halfL c⟩] else [])
 | p::r,c=>if zaz c p=true then
   match choicesL j letter r (addT c p) with
   | none=>none
   | some A=>match choicesL j letter r c with
    | none=>none
    | some B=>some (A++B)
  else none
section
variable {j letter:Int}
theorem zc2 {p c:List Int} {r:List (List Int)} (h:zaz c p=false):choicesL j letter (p::r) c=none:=by
 unfold choicesL;rw [h];rfl
theorem zck {p c:List Int} {r:List (List Int)} (h:zaz c p=true) (h1:choicesL j letter r (addT c p)=none):choicesL j letter (p::r) c=none:=by
 unfold choicesL;rw [if_pos h,h1]
theorem zcl {p c:List Int} {r:List (List Int)} {A:List It} (h:zaz c p=true) (h1:choicesL j letter r (addT c p)=some A) (h2:choicesL j letter r c=none):choicesL j letter (p::r) c=none:=by
 unfold choicesL;rw [if_pos h,h1,h2]
theorem zcm {p c:List Int} {r:List (List Int)} {A B:List It} (h:zaz c p=true) (h1:choicesL j letter r (addT c p)=some A) (h2:choicesL j letter r c=some B):choicesL j letter (p::r) c=some (A++B):=by
 unfold choicesL;rw [if_pos h,h1,h2]
structure Chosen (j letter:Int) (ps:List (List Int)) (c:List Int) (A:List It):Prop where
 few:A.length≤2 ^ ps.length
 each:∀ i,i<2 ^ ps.length→∃ c',chosenL c ps i=some c'
 mem:∀ z,z∈A↔∃ i c',i<2 ^ ps.length∧chosenL c ps i=some c'∧zao c'=letter∧z=⟨j,halfL c'⟩
theorem zbb (c p:List Int) (r:List (List Int)) (i:Nat):chosenL c (p::r) (2*i+1)=if zaz c p=true then chosenL (addT c p) r i else none:=by
 have e:(2*i+1)/2=i:=by omega
 have e2:(2*i+1) % 2=1:=by omega
 rw [chosenL,if_pos e2,e]
theorem zbr (c p:List Int) (r:List (List Int)) (i:Nat):chosenL c (p::r) (2*i)=chosenL c r i:=by
 have e:(2*i)/2=i:=by omega
 have e2:¬(2*i) % 2=1:=by omega
 rw [chosenL,if_neg e2,e]
theorem zbc:∀ (ps:List (List Int)) (c:List Int),(choicesL j letter ps c=none→∃ i,i<2 ^ ps.length∧chosenL c ps i=none)∧∀ A,choicesL j letter ps c=some A→Chosen j letter ps c A
 | [],c=>by
  refine ⟨fun h=>by simp [choicesL] at h,fun A h=>?_⟩
  unfold choicesL at h
  injection h with h
  subst h
  refine ⟨?_,fun i _=>⟨c,rfl⟩,fun z=>?_⟩
  ·split<;>simp
  ·constructor
   ·intro hz
    split at hz
    ·next ho=>
     obtain rfl:=List.mem_singleton.1 hz
     exact ⟨0,c,by simp,rfl,ho,rfl⟩
    ·simp at hz
   ·rintro ⟨i,c',_,h1,h2,rfl⟩
    injection h1 with h1
    subst h1
    rw [if_pos h2]
    simp
 | p::r,c=>by
  have e:2 ^ (p::r).length=2*2 ^ r.length:=by rw [List.length_cons,Nat.pow_succ];omega
  have hp:=Nat.two_pow_pos r.length
  by_cases h:zaz c p=true
  ·have i1:=zbc r (addT c p)
   have i2:=zbc r c
   cases h1:choicesL j letter r (addT c p) with
   | none=>
    obtain ⟨i,hi,hc⟩:=i1.1 h1
    rw [zck h h1]
    refine ⟨fun _=>⟨2*i+1,by omega,by rw [zbb,if_pos h,hc]⟩,fun A hA=>by cases hA⟩
   | some A=>
    cases h2:choicesL j letter r c with
    | none=>
     obtain ⟨i,hi,hc⟩:=i2.1 h2
     rw [zcl h h1 h2]
     refine ⟨fun _=>⟨2*i,by omega,by rw [zbr,hc]⟩,fun A hA=>by cases hA⟩
    | some B=>
     rw [zcm h h1 h2]
     have a:=i1.2 A h1
     have b:=i2.2 B h2
     refine ⟨fun hn=>(by cases hn),fun C hC=>?_⟩
     injection hC with hC
     subst hC
     have fa:=a.few
     have fb:=b.few
     refine ⟨by rw [List.length_append];omega,fun i hi=>?_,fun z=>?_⟩
     ·rcases (show i % 2=1∨i % 2=0 by omega) with h3 | h3
      ·obtain ⟨k,rfl⟩:∃ k,i=2*k+1:=⟨i/2,by omega⟩
       rw [zbb,if_pos h]
       exact a.each k (by omega)
      ·obtain ⟨k,rfl⟩:∃ k,i=2*k:=⟨i/2,by omega⟩
       rw [zbr]
       exact b.each k (by omega)
     ·rw [List.mem_append,a.mem,b.mem]
      constructor
      ·rintro (⟨i,c',h3,h4,h5,h6⟩ | ⟨i,c',h3,h4,h5,h6⟩)
       ·exact ⟨2*i+1,c',by omega,by rw [zbb,if_pos h,h4],h5,h6⟩
       ·exact ⟨2*i,c',by omega,by rw [zbr,h4],h5,h6⟩
      ·rintro ⟨i,c',h3,h4,h5,h6⟩
       rcases (show i % 2=1∨i % 2=0 by omega) with h7 | h7
       ·obtain ⟨k,rfl⟩:∃ k,i=2*k+1:=⟨i/2,by omega⟩
        rw [zbb,if_pos h] at h4
        exact .inl ⟨k,c',by omega,h4,h5,h6⟩
       ·obtain ⟨k,rfl⟩:∃ k,i=2*k:=⟨i/2,by omega⟩
        rw [zbr] at h4
        exact .inr ⟨k,c',by omega,h4,h5,h6⟩
  ·have h:zaz c p=false:=by simpa using h
   rw [zc2 h]
   refine ⟨fun _=>⟨1,by omega,?_⟩,fun A hA=>by cases hA⟩
   have:=zbb c p r 0
   rw [h] at this
   exact this
theorem Chosen.good {ps:List (List Int)} {c:List Int} {A:List It} (h:Chosen j letter ps c A):zcj A:=fun z hz=>by
 obtain ⟨_,c',_,_,_,rfl⟩:=(h.mem z).1 hz
 exact zfQ j c'
theorem zoM (w:List Int) (t:Nat):(zaJ w (0:Int).toNat).getD t 0=w.getD t 0:=by
 have:=zey w 0 t
 simpa using this
theorem zix {c:List Int} (h:zaa c=true):letterN c 0=zao c:=by
 unfold letterN zao
 rw [if_pos ⟨h,by omega,by omega⟩]
 refine ze6 (fun t=>?_)
 rw [zoM]
end
def Pers (w:World) (pv:Option Addr) (m pd:Nat) (rest:List (List Int)):Prop:=
 rest.length=m∧m≤pd∧pd≤9223372036854775807∧(m=0∨∃ g k pc ps,pv=some ⟨g,k,none⟩∧pd=pc-k∧Bags w (some ⟨g,0,none⟩) pc ps∧k+m=ps.length∧rest=ps.drop k)
theorem Pers.of {w:World} {pa:Option Addr} {pc m:Nat} {ps:List (List Int)} (h:Bags w pa pc ps) (hm:ps.length=m):Pers w pa m pc ps:=by
 have hle:=h.le
 refine ⟨hm,by omega,by omega,?_⟩
 by_cases h0:m=0
 ·exact .inl h0
 ·obtain ⟨g,b,d,e,_,_⟩:=h.at (k:=0) (by omega)
  subst e
  exact .inr ⟨g,0,pc,ps,rfl,by omega,h,by omega,by simp⟩
def ChI (oa:Option Addr) (L:List It) (o:Option (List It)) (w:World) (e:Ending) (w':World):Prop:=
 ∃ (a:Option Addr) (q c:Nat) (b:Bool),e=.returned (.tuple #[.slice a q c,.bool b])∧MK oa w w'∧q≤c∧c≤9223372036854775807∧
  (b=false→o=none∧a=none∧q=0∧c=0)∧(b=true→∃ A,o=some A∧q=L.length+A.length∧Its w' a c (L++A)∧∀ g,a=some ⟨g,0,none⟩→oa=some ⟨g,0,none⟩∨w.heap.size≤g)
theorem znW {oa:Option Addr} {L:List It} {o:Option (List It)} {w w':World} (h:o=none) (k:MK oa w w'):ChI oa L o w (.returned (.tuple #[.slice none 0 0,.bool false])) w':=
 ⟨none,0,0,false,rfl,k,Nat.le_refl _,Nat.zero_le _,fun _=>⟨h,rfl,rfl,rfl⟩,fun h=>by cases h⟩
set_option maxRecDepth 100000 in
set_option maxHeartbeats 4000000 in
theorem zlW (j letter:Int) (oa ca pv:Option Addr) (oc n cc pd q:Nat) (L:List It) (cs:List Int) (w:World) (HI0:Its w oa oc L) (hq:L.length=q) (HC0:Bag w ca cc cs) (hr:zaa cs=true) (hn:cs.length=n) (hb:q+1≤100000000000) :
  Calls Tryz.prog 110 #[.slice oa q oc,.agg #[.int .i64 j,.slice ca n cc],.slice pv 0 pd,.int .u64 letter] w (ChI oa L (choicesL j letter [] cs) w):=by
 have hlo:=HI0.le
 have hlc:=HC0.le
 rw [hq] at hlo
 rw [hn] at hlc
 have bb:=below_alloc w (.cells #[.int .i64 j,.slice ca n cc] 111)
 have HI:=dq (HI0.below bb)
 have HL:=dq (Lies.new w 111 [.int .i64 j,.slice ca n cc])
 have HCA:=dq (HC0.below bb)
 have HOL:Hid (∀ g,oa=some ⟨g,0,none⟩→g<w.heap.size):=dq (fun g e=>HI0.lt e)
 have HBW:=dq bb
 have HLK:=dq hq
 have HN:=dq hn
 have HRT:=dq hr
 have HE0:Hid (choicesL j letter [] cs=some (if zao cs=letter then [⟨j,halfL cs⟩] else [])):=dq rfl
 generalize choicesL j letter [] cs=ch at HE0 ⊢
 clear bb HI0 HC0 hq hn hr
 go_enter Tryz.func110,Tryz.ntmps110
 go_wp2_with (fail)
 generalize w.alloc (.cells #[.int .i64 j,.slice ca n cc] 111)=W at HI HL HCA HBW ⊢
 generalize hg:w.heap.size=gb at HL ⊢
 have HG:=dq hg
 clear hg
 have Z:=zkO ca cc cs 0 W HCA.out (by omega) (by omega)
 rw [HN.out,zix HRT.out] at Z
 have HZ:=dq Z
 clear Z
 generalize hod:zao cs=od at HZ HE0
 refine HZ.out.mono ?_
 rintro e W2 ⟨rfl,b1⟩
 have HI2:=dq (HI.out.below b1)
 have HL2:=dq (HL.out.below b1 HL.out.lt)
 have HCA2:=dq (HCA.out.below b1)
 have HBW2:=dq (HBW.out.trans (b1.mono HBW.out.size))
 clear b1 HZ HI HL HCA HBW hod
 by_cases hol:od=letter
 ·have HE:Hid (ch=some [⟨j,halfL cs⟩]):=dq (by rw [HE0.out,if_pos hol])
  have holb:(od==letter)=true:=by simp [hol]
  clear HE0
  go_upto_region 3 with (fail)
  generalize W2=W at *
  have HI:=HI2
  have HCA:=HCA2
  have HGE:=HG.out
  have HOL:Hid (∀ g,oa=some ⟨g,0,none⟩→g<gb):=dq (fun g e=>by rw [←HGE];exact HOL.out g e)
  have bd:MK oa w W.drew∧Lies W.drew gb 111 [.int .i64 j,.slice ca n cc]:=⟨MK.then (Kept.of_below HBW2.out) (⟨rfl,rfl,rfl,Nat.le_refl _,fun _ _=>rfl⟩:Below W.heap.size W W.drew),HL2.out⟩
  clear HI2 HCA2
  refine wp_region_held_drew (S:=fun V=>MK oa w V∧Lies V gb 111 [.int .i64 j,.slice ca n cc]) (by kernel_rfl) bd (fun hHeld=>?_)
  clear hHeld
  refine tkY 0 ztq (v:=?_) rfl bd ?_ ?_
  rotate_left
  ·intro w hSw
   simp only [ztq];go_simp
   try with_reducible rfl
  try simp only [ztq,Act.put,pA,pB,pC]
  refine tkY 1 ztr (v:=?_) rfl bd ?_ ?_
  rotate_left
  ·intro w hSw
   simp only [ztr];go_simp
   try with_reducible rfl
  try simp only [ztr,Act.put,pA,pB,pC]
  refine tkY 2 zts (v:=?_) rfl bd ?_ ?_
  rotate_left
  ·intro w hSw
   have k0:=hSw.2.cell 0
   have k1:=hSw.2.cell 1
   simp only [List.getElem?_cons_zero,List.getElem?_cons_succ] at k0 k1
   simp only [zts];go_simp
   try with_reducible rfl
  try simp only [zts,Act.put,pA,pB,pC]
  refine tkY 3 ztt (v:=?_) rfl bd ?_ ?_
  rotate_left
  ·intro w hSw
   simp only [ztt];go_simp
   try with_reducible rfl
  try simp only [ztt,Act.put,pA,pB,pC]
  refine tkY 4 ztu (v:=?_) rfl bd ?_ ?_
  rotate_left
  ·intro w hSw
   have k0:=hSw.2.cell 0
   have k1:=hSw.2.cell 1
   simp only [List.getElem?_cons_zero,List.getElem?_cons_succ] at k0 k1
   simp only [ztu];go_simp
   try with_reducible rfl
  try simp only [ztu,Act.put,pA,pB,pC]
  have HBD:=dq bd
  have b0:Below W.heap.size W W.drew:=⟨rfl,rfl,rfl,Nat.le_refl _,fun _ _=>rfl⟩
  have HI:=dq (HI.out.below b0)
  have HCA:=dq (HCA.out.below b0)
  clear b0 bd
  generalize W.drew=V0 at HBD HI HCA ⊢
  have Z:=zuB ca cc cs V0 HCA.out HRT.out
  rw [HN.out] at Z
  have HZ:=dq Z
  clear Z
  refine wpAnyH_ready (rs:=[5]) (by kernel_rfl) (by simp) ?_
  refine AllReadyH.cons (o:=ztv) rfl (fun K hK=>?_) AllReadyH.nil
  simp only [ztv];go_simp
  refine HZ.out.mono ?_
  rintro e V1 ⟨a2,c2,rfl,r2,f2,b2⟩
  generalize hn0:(halfL cs).length=n0
  have hl4:=r2.le
  rw [hn0] at hl4
  have HS1:Hid (MK oa w V1∧Lies V1 gb 111 [.int .i64 j,.slice ca n cc]):=dq ⟨MK.then HBD.out.1 b2,HBD.out.2.below b2 HBD.out.2.lt⟩
  have HI1:=dq (HI.out.below b2)
  have bz:=below_alloc V1 (.cells #[.int .i64 j,.slice a2 n0 c2] 111)
  have HS2:Hid (MK oa w (V1.alloc (.cells #[.int .i64 j,.slice a2 n0 c2] 111))∧Lies (V1.alloc (.cells #[.int .i64 j,.slice a2 n0 c2] 111)) gb 111 [.int .i64 j,.slice ca n cc]):=dq ⟨MK.then HS1.out.1 bz,HS1.out.2.below bz HS1.out.2.lt⟩
  obtain ⟨ls,hls,I⟩:=HI1.out.below bz
  have hln:ls.length=q:=by rw [←zbj,hls];exact HLK.out
  have RR:=I.row
  rw [hln] at RR
  have LZ:=Lies.new V1 111 [.int .i64 j,.slice a2 n0 c2]
  obtain ⟨v4,w4,hr3,A4⟩:=zbx 77 77 Tryz.underlying77 oa oc q (zay ls) _ RR ⟨V1.heap.size,0,none⟩ 1 1 [.int .i64 j,.slice a2 n0 c2] rfl (fun j y hj=>by rw [Addr.add_lit,Nat.zero_add];exact (LZ.cell j).trans hj) (by intro y hy;simp only [List.mem_cons,List.not_mem_nil,or_false] at hy;rcases hy with rfl | rfl<;>rfl) (by omega)
  have HA4:=dq A4
  obtain ⟨a4,c4,rfl,I4,_⟩:=zkF (x:=⟨j,halfL cs⟩) hls I (r2.below bz) HLK.out hn0 A4
  obtain ⟨a5,c5,e5,_,k4,f4⟩:=HA4.out
  injection e5 with e5 _ e6
  subst e5 e6
  have HI4:=dq I4
  have hc4:=I4.le
  rw [List.length_append,HLK.out] at hc4
  have hsz:=HS2.out.1.size
  have HK4:Hid (MK oa w w4):=dq (HS2.out.1.trans k4 (fun _ _ h=>h))
  have HX4:Hid (Lies w4 gb 111 [.int .i64 j,.slice ca n cc]):=dq (HS2.out.2.kept k4 (fun e=>by
   have:=HOL.out gb e
   omega))
  have HF:Hid (ChI oa L (some [⟨j,halfL cs⟩]) w (.returned (.tuple #[.slice a4 (q+1) c4,.bool true])) w4):=dq ⟨a4,q+1,c4,true,rfl,HK4.out,hc4.1,hc4.2,(fun h=>nomatch h),fun _=>⟨_,rfl,by rw [HLK.out];rfl,HI4.out,fun g e=>(f4 g e).imp id (fun h=>Nat.le_trans hsz h)⟩⟩
  clear bz RR LZ A4 HA4 I4 r2 f2 b2 I hls hln HZ hn0 HI HI1 HCA k4 f4 hsz
  go_wp2_with (fail)
  refine hK.out _ _ HS1.out (fun hHeld=>?_)
  clear hK K hHeld
  try simp only [ztv,Act.put,pA,pB,pC]
  refine tkY 6 ztw (v:=?_) rfl HS1.out ?_ ?_
  rotate_left
  ·intro w hSw
   simp only [ztw];go_simp
   try with_reducible rfl
  try simp only [ztw,Act.put,pA,pB,pC]
  refine wpAnyH_ready (rs:=[7]) (by kernel_rfl) (by simp) ?_
  refine AllReadyH.cons (o:=ztx) rfl (fun K hK=>?_) AllReadyH.nil
  simp only [ztx];go_simp
  refine hK.out _ _ HS2.out (fun hHeld=>?_)
  clear hK K hHeld
  try simp only [ztx,Act.put,pA,pB,pC]
  refine wpAnyH_ready (rs:=[8]) (by kernel_rfl) (by simp) ?_
  refine AllReadyH.cons (o:=zuE) rfl (fun K hK=>?_) AllReadyH.nil
  refine step_append_run _ rfl _ _ _ _ rfl _ _ rfl rfl _ _ hr3 ?_
  clear hr3
  refine hK.out _ _ ⟨HK4.out,HX4.out⟩ (fun hHeld=>?_)
  clear hK K hHeld
  try simp only [zuE,Act.put,pA,pB,pC]
  refine tkY 9 zty (v:=?_) rfl ⟨HK4.out,HX4.out⟩ ?_ ?_
  rotate_left
  ·intro w hSw
   simp only [zty];go_simp
   try with_reducible rfl
  try simp only [zty,Act.put,pA,pB]
  refine wpAnyH_done (by kernel_rfl) ?_ _
  go_wp2
  exact bodyPost_ret (v:=.tuple #[.slice a4 (q+1) c4,.bool true]) (by simp [results,Tryz.results110,go_sem]) rfl (by rw [HE.out];exact HF.out)
 ·have HF:Hid (ChI oa L ch w (.returned (.tuple #[.slice oa q oc,.bool true])) W2):=dq ⟨oa,q,oc,true,rfl,Kept.of_below HBW2.out,hlo.1,hlo.2,(fun h=>nomatch h),fun _=>⟨[],by rw [HE0.out,if_neg hol],by rw [HLK.out];rfl,by rw [List.append_nil];exact HI2.out,fun g e=>.inl e⟩⟩
  have holb:(od==letter)=false:=by simp [hol]
  go_wp2
  exact bodyPost_ret (v:=.tuple #[.slice oa q oc,.bool true]) (by simp [results,Tryz.results110,go_sem]) rfl HF.out
end Go.Proofs.YtmnkjekjknhhjaaGreatDoor
namespace Go.Proofs.YtmnkjekjknhhjaaGreatDoor
open Go.ChangeShapes Go.WideShapes Go.ChangeAt Go.RowKit
def ztz:Oper:=⟨some 30,.fieldAddr 111 (.tmp 5) 1,0,"auto.go:103",#[],none⟩
def ztA:Oper:=⟨some 31,.load 31 (.tmp 30),31,"auto.go:103",#[⟨0,.data⟩],none⟩
def ztB:Oper:=⟨some 32,.move (.tmp 2),51,"auto.go:103",#[],none⟩
def ztC:Oper:=⟨some 33,.indexAddr 51 (.tmp 32) (.const (.int .i64 0)),0,"auto.go:103",#[⟨2,.data⟩],none⟩
def ztD:Oper:=⟨some 34,.load 31 (.tmp 33),31,"auto.go:103",#[⟨3,.data⟩],none⟩
def ztE:Oper:=⟨some 35,.call {callee:=.value (.func 91),args:=#[.tmp 31,.tmp 34],argTypes:=#[31,31]},90,"auto.go:103",#[⟨1,.data⟩,⟨4,.data⟩],none⟩
def ztF:Oper:=⟨some 29,.move (.tmp 35),90,"auto.go:103",#[⟨5,.data⟩],none⟩
def ztG:Oper:=⟨some 36,.extract (.tmp 29) 0,31,"auto.go:103",#[⟨6,.data⟩],none⟩
def ztH:Oper:=⟨some 37,.extract (.tmp 29) 1,4,"auto.go:103",#[⟨6,.data⟩,{on:=9,ground:=Ground.gcOnly Departure.lateStores}],none⟩
def ztI:Oper:=⟨some 10,.assign (.tmp 36),31,"auto.go:103",#[⟨7,.data⟩,⟨5,.chain⟩,⟨0,.phase⟩,⟨1,.phase⟩,⟨2,.phase⟩,⟨3,.phase⟩,⟨4,.phase⟩,⟨5,.phase⟩,⟨6,.phase⟩,⟨7,.phase⟩,{on:=8,ground:=Ground.textOnly Departure.lateStores}],none⟩
def zqB:Oper:=⟨some 9,.assign (.tmp 37),4,"auto.go:103",#[⟨8,.data⟩,⟨9,.chain⟩,⟨0,.phase⟩,⟨1,.phase⟩,⟨2,.phase⟩,⟨3,.phase⟩,⟨4,.phase⟩,⟨5,.phase⟩,⟨6,.phase⟩,⟨7,.phase⟩,⟨8,.phase⟩,⟨9,.phase⟩],none⟩
def zjv:Oper:=⟨some 41,.move (.tmp 0),77,"auto.go:108",#[],none⟩
def zjw:Oper:=⟨some 42,.fieldAddr 111 (.tmp 5) 0,0,"auto.go:108",#[],none⟩
def zjx:Oper:=⟨some 43,.load 3 (.tmp 42),3,"auto.go:108",#[⟨1,.data⟩],none⟩
def zjy:Oper:=⟨some 44,.move (.tmp 10),31,"auto.go:108",#[],none⟩
def zjz:Oper:=⟨some 45,.build 111 #[(0,.tmp 43),(1,.tmp 44)],111,"auto.go:108",#[⟨2,.data⟩,⟨3,.data⟩],none⟩
def zjA:Oper:=⟨some 46,.move (.tmp 2),51,"auto.go:108",#[],none⟩
def zjB:Oper:=⟨some 47,.slice 51 (.tmp 46) (some (.const (.int .i64 1))) none none,51,"auto.go:108",#[⟨5,.data⟩],none⟩
def zjC:Oper:=⟨some 48,.move (.tmp 3),82,"auto.go:108",#[],none⟩
def zjD:Oper:=⟨some 49,.call {callee:=.value (.func 110),args:=#[.tmp 41,.tmp 45,.tmp 47,.tmp 48],argTypes:=#[77,111,51,82]},154,"auto.go:108",#[⟨0,.data⟩,⟨4,.data⟩,⟨6,.data⟩,⟨7,.data⟩],none⟩
def zjE:Oper:=⟨some 40,.move (.tmp 49),154,"auto.go:108",#[⟨8,.data⟩],none⟩
def zjF:Oper:=⟨some 50,.extract (.tmp 40) 0,77,"auto.go:108",#[⟨9,.data⟩],none⟩
def zjG:Oper:=⟨some 51,.extract (.tmp 40) 1,4,"auto.go:108",#[⟨9,.data⟩,{on:=12,ground:=Ground.gcOnly Departure.lateStores}],none⟩
def zjH:Oper:=⟨some 0,.assign (.tmp 50),77,"auto.go:108",#[⟨10,.data⟩,⟨8,.chain⟩,⟨0,.phase⟩,⟨1,.phase⟩,⟨2,.phase⟩,⟨3,.phase⟩,⟨4,.phase⟩,⟨5,.phase⟩,⟨6,.phase⟩,⟨7,.phase⟩,⟨8,.phase⟩,⟨9,.phase⟩,⟨10,.phase⟩,{on:=11,ground:=Ground.textOnly Departure.lateStores}],none⟩
def zjI:Oper:=⟨some 9,.assign (.tmp 51),4,"auto.go:108",#[⟨11,.data⟩,⟨12,.chain⟩,⟨0,.phase⟩,⟨1,.phase⟩,⟨2,.phase⟩,⟨3,.phase⟩,⟨4,.phase⟩,⟨5,.phase⟩,⟨6,.phase⟩,⟨7,.phase⟩,⟨8,.phase⟩,⟨9,.phase⟩,⟨10,.phase⟩,⟨11,.phase⟩,⟨12,.phase⟩],none⟩
def zjJ:Oper:=⟨some 54,.move (.tmp 0),77,"auto.go:111",#[],none⟩
def zjK:Oper:=⟨some 55,.load 111 (.tmp 5),111,"auto.go:111",#[],none⟩
def zjL:Oper:=⟨some 56,.move (.tmp 2),51,"auto.go:111",#[],none⟩
def zjM:Oper:=⟨some 57,.slice 51 (.tmp 56) (some (.const (.int .i64 1))) none none,51,"auto.go:111",#[⟨2,.data⟩],none⟩
def zjN:Oper:=⟨some 58,.move (.tmp 3),82,"auto.go:111",#[],none⟩
def zjO:Oper:=⟨some 59,.call {callee:=.value (.func 110),args:=#[.tmp 54,.tmp 55,.tmp 57,.tmp 58],argTypes:=#[77,111,51,82]},154,"auto.go:111",#[⟨0,.data⟩,⟨1,.data⟩,⟨3,.data⟩,⟨4,.data⟩],none⟩
def zjP:Oper:=⟨some 60,.extract (.tmp 59) 0,77,"auto.go:111",#[⟨5,.data⟩],none⟩
def zjQ:Oper:=⟨some 61,.extract (.tmp 59) 1,4,"auto.go:111",#[⟨5,.data⟩],none⟩
def zjR:Oper:=⟨some 8,.assign (.tmp 60),77,"auto.go:111",#[⟨6,.data⟩,⟨5,.chain⟩,⟨0,.phase⟩,⟨1,.phase⟩,⟨2,.phase⟩,⟨3,.phase⟩,⟨4,.phase⟩,⟨5,.phase⟩,⟨6,.phase⟩,⟨7,.phase⟩],none⟩
def zjS:Oper:=⟨some 9,.assign (.tmp 61),4,"auto.go:111",#[⟨7,.data⟩,⟨8,.chain⟩,⟨0,.phase⟩,⟨1,.phase⟩,⟨2,.phase⟩,⟨3,.phase⟩,⟨4,.phase⟩,⟨5,.phase⟩,⟨6,.phase⟩,⟨7,.phase⟩,⟨8,.phase⟩],none⟩
set_option maxRecDepth 100000 in
set_option maxHeartbeats 8000000 in
theorem zlX (j letter:Int) (m:Nat) (IH:Hid (∀ (rest:List (List Int)) (oa ca pv:Option Addr) (oc n cc pd q:Nat) (L:List It) (cs:List Int) (w:World),
   Pers w pv m pd rest→Its w oa oc L→L.length=q→Bag w ca cc cs→zaa cs=true→cs.length=n→q+2 ^ m≤100000000000→
   Calls Tryz.prog 110 #[.slice oa q oc,.agg #[.int .i64 j,.slice ca n cc],.slice pv m pd,.int .u64 letter] w (ChI oa L (choicesL j letter rest cs) w)))
  (rest:List (List Int)) (oa ca pv:Option Addr) (oc n cc pd q:Nat) (L:List It) (cs:List Int) (w:World) (P:Pers w pv (m+1) pd rest) (HI0:Its w oa oc L) (hq:L.length=q) (HC0:Bag w ca cc cs) (hr:zaa cs=true) (hn:cs.length=n) (hb:q+2 ^ (m+1)≤100000000000) :
  Calls Tryz.prog 110 #[.slice oa q oc,.agg #[.int .i64 j,.slice ca n cc],.slice pv (m+1) pd,.int .u64 letter] w (ChI oa L (choicesL j letter rest cs) w):=by
 obtain ⟨hrl,hmp,hpm,hP⟩:=P
 obtain ⟨g,k,pc,ps,rfl,hpc,HPB0,hkm,rfl⟩:=hP.resolve_left (by omega)
 have hk:k<ps.length:=by omega
 obtain ⟨g',b,d,e1,c00,B0⟩:=HPB0.at hk
 injection e1 with e1;injection e1 with e1;subst e1
 have hlo:=HI0.le
 have hlc:=HC0.le
 rw [hq] at hlo
 rw [hn] at hlc
 have bb:=below_alloc w (.cells #[.int .i64 j,.slice ca n cc] 111)
 have HI:=dq (HI0.below bb)
 have HL:=dq (Lies.new w 111 [.int .i64 j,.slice ca n cc])
 have HCA:=dq (HC0.below bb)
 have HPB:=dq (HPB0.below bb)
 have HOL:Hid (∀ g,oa=some ⟨g,0,none⟩→g<w.heap.size):=dq (fun g e=>HI0.lt e)
 have HBW:=dq bb
 have HLK:=dq hq
 have HN:=dq hn
 have HRT:=dq hr
 have hpw:q+2 ^ m+2 ^ m≤100000000000:=by rw [Nat.pow_succ] at hb;omega
 have HPW:=dq hpw
 have hrd:ps.drop k=ps.getD k []::ps.drop (k+1):=by
  rw [List.drop_eq_getElem_cons hk];simp [List.getD,hk]
 have HDL:Hid ((ps.drop (k+1)).length=m):=dq (by rw [List.length_drop];omega)
 have HCH:Hid (choicesL j letter (ps.drop k) cs=choicesL j letter (ps.getD k []::ps.drop (k+1)) cs):=dq (by rw [hrd])
 generalize choicesL j letter (ps.drop k) cs=ch at HCH ⊢
 have hpl:=B0.le
 have hgl:=HPB0.lt rfl
 have ZA0:Hid (∀ V,Below w.heap.size w V→Calls Tryz.prog 91 #[.slice ca n cc,.slice b (ps.getD k []).length d] V (zdA (zbp cs (ps.getD k [])) (zaz cs (ps.getD k [])) V)):=dq (fun V h=>by
  have Z:=zsF ca b cc d cs (ps.getD k []) V (HC0.below h) (B0.below h)
  rwa [hn] at Z)
 clear hpw hb hrd B0 HC0 HI0 HPB0 hq hn hr hP
 generalize hu:(ps.getD k []).length=u at c00 hpl ZA0
 generalize ps.getD k []=p at ZA0 HCH
 have HST:Hid (zaz cs p=true→zbp cs p=addT cs p∧zaa (addT cs p)=true):=dq (fun h=>⟨by unfold zbp;rw [if_pos h],zeT h⟩)
 generalize hok:zaz cs p=ok at ZA0 HST
 have HOK:=dq hok
 generalize hsum:zbp cs p=sum at ZA0 HST
 clear hok hu hsum
 have HPCK:=dq hpc
 have HKM:=dq hkm
 clear hpc hkm
 have i1:(0:Int)<(m:Int)+1:=by omega
 have i4:(1:Int)≤(m:Int)+1:=by omega
 have i2:¬((m:Int)+1=0):=by omega
 have i3:((m:Int)+1==0)=false:=by simp;omega
 go_enter Tryz.func110,Tryz.ntmps110
 go_upto_region 5 with (fail)
 have c0:(w.alloc (.cells #[.int .i64 j,.slice ca n cc] 111)).cell? ⟨g,k,none⟩=some (.slice b u d):=(bb.cell (p:=⟨g,k,none⟩) hgl).trans c00
 clear bb c00
 generalize w.alloc (.cells #[.int .i64 j,.slice ca n cc] 111)=W at HI HL HCA HPB HBW c0 ⊢
 have hsw:=HBW.out.size
 have ZA:Hid (∀ V,Below W.heap.size W V→Calls Tryz.prog 91 #[.slice ca n cc,.slice b u d] V (zdA sum ok V)):=dq (fun V h=>ZA0.out V (HBW.out.trans (h.mono hsw)))
 generalize hg:w.heap.size=gb at HL hgl hsw ⊢
 have HG:=dq hg
 have HOL:Hid (∀ g,oa=some ⟨g,0,none⟩→g<gb):=dq (fun g e=>by rw [←hg];exact HOL.out g e)
 clear hg ZA0
 have x1:W.cell? ⟨gb,1,none⟩=some (.slice ca n cc):=HL.out.cell 1
 have ltb:=HL.out.lt
 have ltg:g<W.heap.size:=by omega
 have bd:Below W.heap.size W W.drew:=⟨rfl,rfl,rfl,Nat.le_refl _,fun _ _=>rfl⟩
 refine wp_region_held_drew (S:=fun w'=>Below W.heap.size W w') (by kernel_rfl) bd (fun hHeld=>?_)
 clear hHeld
 refine tkY 0 ztz (v:=?_) rfl bd ?_ ?_
 rotate_left
 ·intro w hSw
  simp only [ztz];go_simp
  try with_reducible rfl
 try simp only [ztz,Act.put,pA,pB,pC]
 refine tkY 1 ztA (v:=?_) rfl bd ?_ ?_
 rotate_left
 ·intro w hSw
  have f1:=(hSw.cell (p:=⟨gb,1,none⟩) ltb).trans x1
  have f2:=(hSw.cell (p:=⟨g,k,none⟩) ltg).trans c0
  simp only [ztA];go_simp
  try with_reducible rfl
 try simp only [ztA,Act.put,pA,pB,pC]
 refine tkY 2 ztB (v:=?_) rfl bd ?_ ?_
 rotate_left
 ·intro w hSw
  simp only [ztB];go_simp
  try with_reducible rfl
 try simp only [ztB,Act.put,pA,pB,pC]
 refine tkY 3 ztC (v:=?_) rfl bd ?_ ?_
 rotate_left
 ·intro w hSw
  simp only [ztC];go_simp
  try with_reducible rfl
 try simp only [ztC,Act.put,pA,pB,pC]
 refine tkY 4 ztD (v:=?_) rfl bd ?_ ?_
 rotate_left
 ·intro w hSw
  have f1:=(hSw.cell (p:=⟨gb,1,none⟩) ltb).trans x1
  have f2:=(hSw.cell (p:=⟨g,k,none⟩) ltg).trans c0
  simp only [ztD];go_simp
  try with_reducible rfl
 try simp only [ztD,Act.put,pA,pB,pC]
 refine wpAnyH_ready (rs:=[5]) (by kernel_rfl) (by simp) ?_
 refine AllReadyH.cons (o:=ztE) rfl (fun K hK=>?_) AllReadyH.nil
 simp only [ztE];go_simp
 refine (ZA.out _ bd).mono ?_
 rintro e V1 ⟨a1,c1,rfl,B1,f1,d1⟩
 have b1:Below W.heap.size W V1:=bd.trans (d1.mono bd.size)
 have hl1:=B1.le
 have HS1:=dq B1
 generalize hsl:sum.length=sl at hl1 ⊢
 have HSL:=dq hsl
 clear B1 hsl f1
 go_wp2_with (fail)
 refine hK.out _ _ b1 (fun hHeld=>?_)
 clear hK K hHeld
 try simp only [ztE,Act.put,pA,pB,pC]
 refine tkY 6 ztF (v:=?_) rfl b1 ?_ ?_
 rotate_left
 ·intro w hSw
  simp only [ztF];go_simp
  try with_reducible rfl
 try simp only [ztF,Act.put,pA,pB,pC]
 refine tkY 7 ztG (v:=?_) rfl b1 ?_ ?_
 rotate_left
 ·intro w hSw
  simp only [ztG];go_simp
  try with_reducible rfl
 try simp only [ztG,Act.put,pA,pB,pC]
 refine tkY 8 ztH (v:=?_) rfl b1 ?_ ?_
 rotate_left
 ·intro w hSw
  simp only [ztH];go_simp
  try with_reducible rfl
 try simp only [ztH,Act.put,pA,pB,pC]
 refine tkY 9 ztI (v:=?_) rfl b1 ?_ ?_
 rotate_left
 ·intro w hSw
  simp only [ztI];go_simp
  try with_reducible rfl
 try simp only [ztI,Act.put,pA,pB,pC]
 refine tkY 10 zqB (v:=?_) rfl b1 ?_ ?_
 rotate_left
 ·intro w hSw
  simp only [zqB];go_simp
  try with_reducible rfl
 try simp only [zqB,Act.put,pA,pB,pC]
 refine wpAnyH_done (by kernel_rfl) ?_ _
 by_cases hpd:pd=1
 ·subst hpd
  obtain rfl:m=0:=by omega
  cases ok with
  | false=>
   have HF:Hid (ChI oa L ch w (.returned (.tuple #[.slice none 0 0,.bool false])) V1):=dq (znW (by rw [HCH.out];exact zc2 HOK.out) (Kept.of_below (HBW.out.trans (b1.mono HBW.out.size))))
   clear c0 x1 ltb ltg b1 HS1
   go_wp2
   exact bodyPost_ret (v:=.tuple #[.slice none 0 0,.bool false]) (by simp [results,Tryz.results110,go_sem]) rfl HF.out
  | true=>
   have hst:=HST.out rfl
   have HRT1:Hid (zaa sum=true):=dq (by rw [hst.1];exact hst.2)
   have HTS:Hid (sum=addT cs p):=dq hst.1
   have HB1:=dq (HBW.out.trans (b1.mono HBW.out.size))
   have HI1:=dq (HI.out.below b1)
   have HL1:=dq (HL.out.below b1 HL.out.lt)
   have HC1:=dq (HCA.out.below b1)
   have HP1:=dq (HPB.out.below b1)
   clear hst c0 x1 ltb ltg b1 HI HL HCA HPB HBW d1 HST
   go_upto_region 8 with (fail)
   have b0:Below V1.heap.size V1 V1.drew:=⟨rfl,rfl,rfl,Nat.le_refl _,fun _ _=>rfl⟩
   have HB2:=dq (HB1.out.trans (b0.mono HB1.out.size))
   have HI2:=dq (HI1.out.below b0)
   have HL2:=HL1.out.below b0 HL1.out.lt
   have HC2:=dq (HC1.out.below b0)
   have HP2:=dq (HP1.out.below b0)
   have HS2:=dq (HS1.out.below b0)
   clear b0 HB1 HI1 HL1 HC1 HP1 HS1
   refine wp_region_held_drew (S:=fun V=>Lies V gb 111 [.int .i64 j,.slice ca n cc]) (by kernel_rfl) HL2 (fun hHeld=>?_)
   clear hHeld
   generalize V1.drew=W at HB2 HI2 HL2 HC2 HP2 HS2 ⊢
   have HAP:Hid (oa=some ⟨gb,0,none⟩→False):=dq (fun e=>by
    have:=HOL.out gb e
    omega)
   have HLT0:=dq HL2.lt
   have HPE:Hid (Pers W (some ⟨g,k,none⟩) 0 0 (ps.drop (k+1))):=dq ⟨HDL.out,Nat.le_refl _,Nat.zero_le _,.inl rfl⟩
   generalize ho:choicesL j letter (ps.drop (k+1)) sum=o
   have HO:=dq ho
   clear ho
   have ZI:Hid (Calls Tryz.prog 110 #[.slice oa q oc,.agg #[.int .i64 j,.slice a1 sl c1],.slice (some ⟨g,k,none⟩) 0 0,.int .u64 letter] W (ChI oa L o W)):=dq (by
    have h:=IH.out (ps.drop (k+1)) oa a1 (some ⟨g,k,none⟩) oc sl c1 0 q L sum W HPE.out HI2.out HLK.out HS2.out HRT1.out HSL.out (by have:=HPW.out;have:=Nat.two_pow_pos 0;omega)
    rw [HO.out] at h
    exact h)
   refine tkY 0 zjv (v:=?_) rfl HL2 ?_ ?_
   rotate_left
   ·intro w hSw
    simp only [zjv];go_simp
    try with_reducible rfl
   try simp only [zjv,Act.put,pA,pB,pC]
   refine tkY 1 zjw (v:=?_) rfl HL2 ?_ ?_
   rotate_left
   ·intro w hSw
    simp only [zjw];go_simp
    try with_reducible rfl
   try simp only [zjw,Act.put,pA,pB,pC]
   refine tkY 2 zjx (v:=?_) rfl HL2 ?_ ?_
   rotate_left
   ·intro w hSw
    have k0:=hSw.cell 0
    have k1:=hSw.cell 1
    simp only [List.getElem?_cons_zero,List.getElem?_cons_succ] at k0 k1
    simp only [zjx];go_simp
    try with_reducible rfl
   try simp only [zjx,Act.put,pA,pB,pC]
   refine tkY 3 zjy (v:=?_) rfl HL2 ?_ ?_
   rotate_left
   ·intro w hSw
    simp only [zjy];go_simp
    try with_reducible rfl
   try simp only [zjy,Act.put,pA,pB,pC]
   refine tkY 4 zjz (v:=?_) rfl HL2 ?_ ?_
   rotate_left
   ·intro w hSw
    simp only [zjz];go_simp
    try with_reducible rfl
   try simp only [zjz,Act.put,pA,pB,pC]
   refine tkY 5 zjA (v:=?_) rfl HL2 ?_ ?_
   rotate_left
   ·intro w hSw
    simp only [zjA];go_simp
    try with_reducible rfl
   try simp only [zjA,Act.put,pA,pB,pC]
   refine tkY 6 zjB (v:=?_) rfl HL2 ?_ ?_
   rotate_left
   ·intro w hSw
    simp only [zjB];go_simp
    try with_reducible rfl
   try simp only [zjB,Act.put,pA,pB,pC]
   refine tkY 7 zjC (v:=?_) rfl HL2 ?_ ?_
   rotate_left
   ·intro w hSw
    simp only [zjC];go_simp
    try with_reducible rfl
   try simp only [zjC,Act.put,pA,pB,pC]
   refine wpAnyH_ready (rs:=[8]) (by kernel_rfl) (by simp) ?_
   refine AllReadyH.cons (o:=zjD) rfl (fun K hK=>?_) AllReadyH.nil
   simp only [zjD];go_simp
   refine ZI.out.mono ?_
   rintro e V2 ⟨a2,q2,c2,b2,rfl,k2,hc2,hd2,hf2,ht2⟩
   have HL2:Lies V2 gb 111 [.int .i64 j,.slice ca n cc]:=HL2.kept k2 (fun e=>by
    have:=HAP.out e
    omega)
   have HK2:=dq k2
   have HF2:=dq hf2
   have HT2:=dq ht2
   clear k2 hf2 ht2
   go_wp2_with (fail)
   refine hK.out _ _ HL2 (fun hHeld=>?_)
   clear hK K hHeld
   try simp only [zjD,Act.put,pA,pB,pC]
   refine tkY 9 zjE (v:=?_) rfl HL2 ?_ ?_
   rotate_left
   ·intro w hSw
    simp only [zjE];go_simp
    try with_reducible rfl
   try simp only [zjE,Act.put,pA,pB,pC]
   refine tkY 10 zjF (v:=?_) rfl HL2 ?_ ?_
   rotate_left
   ·intro w hSw
    simp only [zjF];go_simp
    try with_reducible rfl
   try simp only [zjF,Act.put,pA,pB,pC]
   refine tkY 11 zjG (v:=?_) rfl HL2 ?_ ?_
   rotate_left
   ·intro w hSw
    simp only [zjG];go_simp
    try with_reducible rfl
   try simp only [zjG,Act.put,pA,pB,pC]
   refine tkY 12 zjH (v:=?_) rfl HL2 ?_ ?_
   rotate_left
   ·intro w hSw
    simp only [zjH];go_simp
    try with_reducible rfl
   try simp only [zjH,Act.put,pA,pB]
   refine tkY 13 zjI (v:=?_) rfl HL2 ?_ ?_
   rotate_left
   ·intro w hSw
    simp only [zjI];go_simp
    try with_reducible rfl
   try simp only [zjI,Act.put,pA,pB,pC]
   refine wpAnyH_done (by kernel_rfl) ?_ _
   have hs2:=HK2.out.size
   have HK2w:Hid (MK oa w V2):=dq ((Kept.of_below HB2.out).trans HK2.out (fun _ _ h=>h))
   cases b2 with
   | false=>
    have HF:Hid (ChI oa L ch w (.returned (.tuple #[.slice none 0 0,.bool false])) V2):=dq (znW (by rw [HCH.out];exact zck HOK.out (by rw [←HTS.out];exact HO.out.trans (HF2.out rfl).1)) HK2w.out)
    clear HL2 HT2 HF2
    go_wp2
    exact bodyPost_ret (v:=.tuple #[.slice none 0 0,.bool false]) (by simp [results,Tryz.results110,go_sem]) rfl HF.out
   | true=>
    obtain ⟨A,hA,hq2,I2,fr2⟩:=HT2.out rfl
    have HA:Hid (choicesL j letter (ps.drop (k+1)) (addT cs p)=some A):=dq (by rw [←HTS.out,HO.out];exact hA)
    have HQ2:Hid ((L++A).length=q2):=dq (by rw [List.length_append,hq2])
    have HFR:Hid (∀ g,a2=some ⟨g,0,none⟩→oa=some ⟨g,0,none⟩∨W.heap.size≤g):=dq fr2
    have HI3:=dq I2
    have HP3:=dq (zkD HI2.out HK2.out HP2.out)
    have HC3:=dq (zkC HI2.out HK2.out HC2.out)
    have HQB:Hid (q2+2 ^ 0≤100000000000):=dq (by
     have h1:=((zbc (ps.drop (k+1)) (addT cs p)).2 A HA.out).few
     rw [HDL.out] at h1
     have h2:=HPW.out
     have h3:=HLK.out
     have h4:=Nat.two_pow_pos 0
     omega)
    have hgw:gb<W.heap.size:=HLT0.out
    have HAP:Hid (a2=some ⟨gb,0,none⟩→False):=dq (fun e=>by
     rcases HFR.out gb e with h | h
     ·exact HAP.out h
     ·omega)
    clear hA hq2 I2 fr2 HT2 HF2 HI2 HC2 HP2 HS2 HPE ZI
    go_upto_region 11 with (fail)
    have b0:Below V2.heap.size V2 V2.drew:=⟨rfl,rfl,rfl,Nat.le_refl _,fun _ _=>rfl⟩
    have HK3w:=dq (MK.then HK2w.out b0)
    have HK3:=dq (MK.then HK2.out b0)
    have HI4:=dq (HI3.out.below b0)
    have HL3:=HL2.below b0 HL2.lt
    have HC4:=dq (HC3.out.below b0)
    have HP4:=dq (HP3.out.below b0)
    clear b0 HI3 HC3 HP3 HK2w HK2 hs2
    refine wp_region_held_drew (S:=fun V=>Lies V gb 111 [.int .i64 j,.slice ca n cc]) (by kernel_rfl) HL3 (fun hHeld=>?_)
    clear hHeld
    generalize V2.drew=X at HI4 HL3 HC4 HP4 HK3w HK3 ⊢
    have hsx:=HK3w.out.size
    have hsx2:=HK3.out.size
    have HPE:Hid (Pers X (some ⟨g,k,none⟩) 0 0 (ps.drop (k+1))):=dq ⟨HDL.out,Nat.le_refl _,Nat.zero_le _,.inl rfl⟩
    generalize ho2:choicesL j letter (ps.drop (k+1)) cs=o2
    have HO2:=dq ho2
    clear ho2
    have ZI:Hid (Calls Tryz.prog 110 #[.slice a2 q2 c2,.agg #[.int .i64 j,.slice ca n cc],.slice (some ⟨g,k,none⟩) 0 0,.int .u64 letter] X (ChI a2 (L++A) o2 X)):=dq (by
     have h:=IH.out (ps.drop (k+1)) a2 ca (some ⟨g,k,none⟩) c2 n cc 0 q2 (L++A) cs X HPE.out HI4.out HQ2.out HC4.out HRT.out HN.out HQB.out
     rw [HO2.out] at h
     exact h)
    refine tkY 0 zjJ (v:=?_) rfl HL3 ?_ ?_
    rotate_left
    ·intro w hSw
     simp only [zjJ];go_simp
     try with_reducible rfl
    try simp only [zjJ,Act.put,pA,pB,pC]
    refine tkY 1 zjK (v:=?_) rfl HL3 ?_ ?_
    rotate_left
    ·intro w hSw
     have k0:=hSw.cell 0
     have k1:=hSw.cell 1
     simp only [List.getElem?_cons_zero,List.getElem?_cons_succ] at k0 k1
     simp only [zjK];go_simp
     try with_reducible rfl
    try simp only [zjK,Act.put,pA,pB,pC]
    refine tkY 2 zjL (v:=?_) rfl HL3 ?_ ?_
    rotate_left
    ·intro w hSw
     simp only [zjL];go_simp
     try with_reducible rfl
    try simp only [zjL,Act.put,pA,pB,pC]
    refine tkY 3 zjM (v:=?_) rfl HL3 ?_ ?_
    rotate_left
    ·intro w hSw
     simp only [zjM];go_simp
     try with_reducible rfl
    try simp only [zjM,Act.put,pA,pB,pC]
    refine tkY 4 zjN (v:=?_) rfl HL3 ?_ ?_
    rotate_left
    ·intro w hSw
     simp only [zjN];go_simp
     try with_reducible rfl
    try simp only [zjN,Act.put,pA,pB,pC]
    refine wpAnyH_ready (rs:=[5]) (by kernel_rfl) (by simp) ?_
    refine AllReadyH.cons (o:=zjO) rfl (fun K hK=>?_) AllReadyH.nil
    simp only [zjO];go_simp
    refine ZI.out.mono ?_
    rintro e V4 ⟨a4,q4,c4,b4,rfl,k4,hc4,hd4,hf4,ht4⟩
    have HL4:Lies V4 gb 111 [.int .i64 j,.slice ca n cc]:=HL3.kept k4 (fun e=>by
     have:=HAP.out e
     omega)
    have HK4:=dq k4
    have HF4:=dq hf4
    have HT4:=dq ht4
    clear k4 hf4 ht4
    go_wp2_with (fail)
    refine hK.out _ _ HL4 (fun hHeld=>?_)
    clear hK K hHeld
    try simp only [zjO,Act.put,pA,pB,pC]
    refine tkY 6 zjP (v:=?_) rfl HL4 ?_ ?_
    rotate_left
    ·intro w hSw
     simp only [zjP];go_simp
     try with_reducible rfl
    try simp only [zjP,Act.put,pA,pB,pC]
    refine tkY 7 zjQ (v:=?_) rfl HL4 ?_ ?_
    rotate_left
    ·intro w hSw
     simp only [zjQ];go_simp
     try with_reducible rfl
    try simp only [zjQ,Act.put,pA,pB,pC]
    refine tkY 8 zjR (v:=?_) rfl HL4 ?_ ?_
    rotate_left
    ·intro w hSw
     simp only [zjR];go_simp
     try with_reducible rfl
    try simp only [zjR,Act.put,pA,pB,pC]
    refine tkY 9 zjS (v:=?_) rfl HL4 ?_ ?_
    rotate_left
    ·intro w hSw
     simp only [zjS];go_simp
     try with_reducible rfl
    try simp only [zjS,Act.put,pA,pB,pC]
    refine wpAnyH_done (by kernel_rfl) ?_ _
    have HF:Hid (ChI oa L ch w (.returned (.tuple #[.slice a4 q4 c4,.bool b4])) V4):=dq (by
     refine ⟨a4,q4,c4,b4,rfl,HK3w.out.trans HK4.out (fun i hi e=>?_),hc4,hd4,fun h=>?_,fun h=>?_⟩
     ·rcases HFR.out i e with h | h
      ·exact h
      ·have:=HB2.out.size
       omega
     ·obtain ⟨e1,e2,e3,e4⟩:=HF4.out h
      exact ⟨by rw [HCH.out];exact zcl HOK.out HA.out (HO2.out.trans e1),e2,e3,e4⟩
     ·obtain ⟨B,e1,e2,e3,e4⟩:=HT4.out h
      refine ⟨A++B,by rw [HCH.out];exact zcm HOK.out HA.out (HO2.out.trans e1),?_,?_,fun i hi=>?_⟩
      ·rw [e2,List.length_append,List.length_append];omega
      ·rw [←List.append_assoc];exact e3
      ·rcases e4 i hi with h | h
       ·rcases HFR.out i h with h | h
        ·exact .inl h
        ·have:=HB2.out.size
         exact .inr (by omega)
       ·exact .inr (by omega))
    clear HL4 HT4 HF4 HK4
    go_wp2
    exact bodyPost_ret (v:=.tuple #[.slice a4 q4 c4,.bool b4]) (by simp [results,Tryz.results110,go_sem]) rfl HF.out
 ·have hpd1:¬(pd:Int)=1:=by omega
  have hpd2:(1:Int)≤(pd:Int):=by omega
  have hpd3:1<pd:=by omega
  cases ok with
  | false=>
   have HF:Hid (ChI oa L ch w (.returned (.tuple #[.slice none 0 0,.bool false])) V1):=dq (znW (by rw [HCH.out];exact zc2 HOK.out) (Kept.of_below (HBW.out.trans (b1.mono HBW.out.size))))
   clear c0 x1 ltb ltg b1 HS1
   go_wp2
   exact bodyPost_ret (v:=.tuple #[.slice none 0 0,.bool false]) (by simp [results,Tryz.results110,go_sem]) rfl HF.out
  | true=>
   have hst:=HST.out rfl
   have HRT1:Hid (zaa sum=true):=dq (by rw [hst.1];exact hst.2)
   have HTS:Hid (sum=addT cs p):=dq hst.1
   have HB1:=dq (HBW.out.trans (b1.mono HBW.out.size))
   have HI1:=dq (HI.out.below b1)
   have HL1:=dq (HL.out.below b1 HL.out.lt)
   have HC1:=dq (HCA.out.below b1)
   have HP1:=dq (HPB.out.below b1)
   clear hst c0 x1 ltb ltg b1 HI HL HCA HPB HBW d1 HST
   go_upto_region 8 with (fail)
   have b0:Below V1.heap.size V1 V1.drew:=⟨rfl,rfl,rfl,Nat.le_refl _,fun _ _=>rfl⟩
   have HB2:=dq (HB1.out.trans (b0.mono HB1.out.size))
   have HI2:=dq (HI1.out.below b0)
   have HL2:=HL1.out.below b0 HL1.out.lt
   have HC2:=dq (HC1.out.below b0)
   have HP2:=dq (HP1.out.below b0)
   have HS2:=dq (HS1.out.below b0)
   clear b0 HB1 HI1 HL1 HC1 HP1 HS1
   refine wp_region_held_drew (S:=fun V=>Lies V gb 111 [.int .i64 j,.slice ca n cc]) (by kernel_rfl) HL2 (fun hHeld=>?_)
   clear hHeld
   generalize V1.drew=W at HB2 HI2 HL2 HC2 HP2 HS2 ⊢
   have HAP:Hid (oa=some ⟨gb,0,none⟩→False):=dq (fun e=>by
    have:=HOL.out gb e
    omega)
   have HLT0:=dq HL2.lt
   have HPE:Hid (Pers W (some ⟨g,k+1,none⟩) m (pd-1) (ps.drop (k+1))):=dq ⟨HDL.out,by omega,by omega,.inr ⟨g,k+1,pc,ps,rfl,by have:=HPCK.out;omega,HP2.out,by have:=HKM.out;omega,rfl⟩⟩
   generalize ho:choicesL j letter (ps.drop (k+1)) sum=o
   have HO:=dq ho
   clear ho
   have ZI:Hid (Calls Tryz.prog 110 #[.slice oa q oc,.agg #[.int .i64 j,.slice a1 sl c1],.slice (some ⟨g,k+1,none⟩) m (pd-1),.int .u64 letter] W (ChI oa L o W)):=dq (by
    have h:=IH.out (ps.drop (k+1)) oa a1 (some ⟨g,k+1,none⟩) oc sl c1 (pd-1) q L sum W HPE.out HI2.out HLK.out HS2.out HRT1.out HSL.out (by have:=HPW.out;have:=Nat.two_pow_pos m;omega)
    rw [HO.out] at h
    exact h)
   refine tkY 0 zjv (v:=?_) rfl HL2 ?_ ?_
   rotate_left
   ·intro w hSw
    simp only [zjv];go_simp
    try with_reducible rfl
   try simp only [zjv,Act.put,pA,pB,pC]
   refine tkY 1 zjw (v:=?_) rfl HL2 ?_ ?_
   rotate_left
   ·intro w hSw
    simp only [zjw];go_simp
    try with_reducible rfl
   try simp only [zjw,Act.put,pA,pB,pC]
   refine tkY 2 zjx (v:=?_) rfl HL2 ?_ ?_
   rotate_left
   ·intro w hSw
    have k0:=hSw.cell 0
    have k1:=hSw.cell 1
    simp only [List.getElem?_cons_zero,List.getElem?_cons_succ] at k0 k1
    simp only [zjx];go_simp
    try with_reducible rfl
   try simp only [zjx,Act.put,pA,pB,pC]
   refine tkY 3 zjy (v:=?_) rfl HL2 ?_ ?_
   rotate_left
   ·intro w hSw
    simp only [zjy];go_simp
    try with_reducible rfl
   try simp only [zjy,Act.put,pA,pB,pC]
   refine tkY 4 zjz (v:=?_) rfl HL2 ?_ ?_
   rotate_left
   ·intro w hSw
    simp only [zjz];go_simp
    try with_reducible rfl
   try simp only [zjz,Act.put,pA,pB,pC]
   refine tkY 5 zjA (v:=?_) rfl HL2 ?_ ?_
   rotate_left
   ·intro w hSw
    simp only [zjA];go_simp
    try with_reducible rfl
   try simp only [zjA,Act.put,pA,pB,pC]
   refine tkY 6 zjB (v:=?_) rfl HL2 ?_ ?_
   rotate_left
   ·intro w hSw
    simp only [zjB];go_simp
    try with_reducible rfl
   try simp only [zjB,Act.put,pA,pB,pC]
   refine tkY 7 zjC (v:=?_) rfl HL2 ?_ ?_
   rotate_left
   ·intro w hSw
    simp only [zjC];go_simp
    try with_reducible rfl
   try simp only [zjC,Act.put,pA,pB,pC]
   refine wpAnyH_ready (rs:=[8]) (by kernel_rfl) (by simp) ?_
   refine AllReadyH.cons (o:=zjD) rfl (fun K hK=>?_) AllReadyH.nil
   simp only [zjD];go_simp
   refine ZI.out.mono ?_
   rintro e V2 ⟨a2,q2,c2,b2,rfl,k2,hc2,hd2,hf2,ht2⟩
   have HL2:Lies V2 gb 111 [.int .i64 j,.slice ca n cc]:=HL2.kept k2 (fun e=>by
    have:=HAP.out e
    omega)
   have HK2:=dq k2
   have HF2:=dq hf2
   have HT2:=dq ht2
   clear k2 hf2 ht2
   go_wp2_with (fail)
   refine hK.out _ _ HL2 (fun hHeld=>?_)
   clear hK K hHeld
   try simp only [zjD,Act.put,pA,pB,pC]
   refine tkY 9 zjE (v:=?_) rfl HL2 ?_ ?_
   rotate_left
   ·intro w hSw
    simp only [zjE];go_simp
    try with_reducible rfl
   try simp only [zjE,Act.put,pA,pB,pC]
   refine tkY 10 zjF (v:=?_) rfl HL2 ?_ ?_
   rotate_left
   ·intro w hSw
    simp only [zjF];go_simp
    try with_reducible rfl
   try simp only [zjF,Act.put,pA,pB,pC]
   refine tkY 11 zjG (v:=?_) rfl HL2 ?_ ?_
   rotate_left
   ·intro w hSw
    simp only [zjG];go_simp
    try with_reducible rfl
   try simp only [zjG,Act.put,pA,pB,pC]
   refine tkY 12 zjH (v:=?_) rfl HL2 ?_ ?_
   rotate_left
   ·intro w hSw
    simp only [zjH];go_simp
    try with_reducible rfl
   try simp only [zjH,Act.put,pA,pB]
   refine tkY 13 zjI (v:=?_) rfl HL2 ?_ ?_
   rotate_left
   ·intro w hSw
    simp only [zjI];go_simp
    try with_reducible rfl
   try simp only [zjI,Act.put,pA,pB,pC]
   refine wpAnyH_done (by kernel_rfl) ?_ _
   have hs2:=HK2.out.size
   have HK2w:Hid (MK oa w V2):=dq ((Kept.of_below HB2.out).trans HK2.out (fun _ _ h=>h))
   cases b2 with
   | false=>
    have HF:Hid (ChI oa L ch w (.returned (.tuple #[.slice none 0 0,.bool false])) V2):=dq (znW (by rw [HCH.out];exact zck HOK.out (by rw [←HTS.out];exact HO.out.trans (HF2.out rfl).1)) HK2w.out)
    clear HL2 HT2 HF2
    go_wp2
    exact bodyPost_ret (v:=.tuple #[.slice none 0 0,.bool false]) (by simp [results,Tryz.results110,go_sem]) rfl HF.out
   | true=>
    obtain ⟨A,hA,hq2,I2,fr2⟩:=HT2.out rfl
    have HA:Hid (choicesL j letter (ps.drop (k+1)) (addT cs p)=some A):=dq (by rw [←HTS.out,HO.out];exact hA)
    have HQ2:Hid ((L++A).length=q2):=dq (by rw [List.length_append,hq2])
    have HFR:Hid (∀ g,a2=some ⟨g,0,none⟩→oa=some ⟨g,0,none⟩∨W.heap.size≤g):=dq fr2
    have HI3:=dq I2
    have HP3:=dq (zkD HI2.out HK2.out HP2.out)
    have HC3:=dq (zkC HI2.out HK2.out HC2.out)
    have HQB:Hid (q2+2 ^ m≤100000000000):=dq (by
     have h1:=((zbc (ps.drop (k+1)) (addT cs p)).2 A HA.out).few
     rw [HDL.out] at h1
     have h2:=HPW.out
     have h3:=HLK.out
     have h4:=Nat.two_pow_pos m
     omega)
    have hgw:gb<W.heap.size:=HLT0.out
    have HAP:Hid (a2=some ⟨gb,0,none⟩→False):=dq (fun e=>by
     rcases HFR.out gb e with h | h
     ·exact HAP.out h
     ·omega)
    clear hA hq2 I2 fr2 HT2 HF2 HI2 HC2 HP2 HS2 HPE ZI
    go_upto_region 11 with (fail)
    have b0:Below V2.heap.size V2 V2.drew:=⟨rfl,rfl,rfl,Nat.le_refl _,fun _ _=>rfl⟩
    have HK3w:=dq (MK.then HK2w.out b0)
    have HK3:=dq (MK.then HK2.out b0)
    have HI4:=dq (HI3.out.below b0)
    have HL3:=HL2.below b0 HL2.lt
    have HC4:=dq (HC3.out.below b0)
    have HP4:=dq (HP3.out.below b0)
    clear b0 HI3 HC3 HP3 HK2w HK2 hs2
    refine wp_region_held_drew (S:=fun V=>Lies V gb 111 [.int .i64 j,.slice ca n cc]) (by kernel_rfl) HL3 (fun hHeld=>?_)
    clear hHeld
    generalize V2.drew=X at HI4 HL3 HC4 HP4 HK3w HK3 ⊢
    have hsx:=HK3w.out.size
    have hsx2:=HK3.out.size
    have HPE:Hid (Pers X (some ⟨g,k+1,none⟩) m (pd-1) (ps.drop (k+1))):=dq ⟨HDL.out,by omega,by omega,.inr ⟨g,k+1,pc,ps,rfl,by have:=HPCK.out;omega,HP4.out,by have:=HKM.out;omega,rfl⟩⟩
    generalize ho2:choicesL j letter (ps.drop (k+1)) cs=o2
    have HO2:=dq ho2
    clear ho2
    have ZI:Hid (Calls Tryz.prog 110 #[.slice a2 q2 c2,.agg #[.int .i64 j,.slice ca n cc],.slice (some ⟨g,k+1,none⟩) m (pd-1),.int .u64 letter] X (ChI a2 (L++A) o2 X)):=dq (by
     have h:=IH.out (ps.drop (k+1)) a2 ca (some ⟨g,k+1,none⟩) c2 n cc (pd-1) q2 (L++A) cs X HPE.out HI4.out HQ2.out HC4.out HRT.out HN.out HQB.out
     rw [HO2.out] at h
     exact h)
    refine tkY 0 zjJ (v:=?_) rfl HL3 ?_ ?_
    rotate_left
    ·intro w hSw
     simp only [zjJ];go_simp
     try with_reducible rfl
    try simp only [zjJ,Act.put,pA,pB,pC]
    refine tkY 1 zjK (v:=?_) rfl HL3 ?_ ?_
    rotate_left
    ·intro w hSw
     have k0:=hSw.cell 0
     have k1:=hSw.cell 1
     simp only [List.getElem?_cons_zero,List.getElem?_cons_succ] at k0 k1
     simp only [zjK];go_simp
     try with_reducible rfl
    try simp only [zjK,Act.put,pA,pB,pC]
    refine tkY 2 zjL (v:=?_) rfl HL3 ?_ ?_
    rotate_left
    ·intro w hSw
     simp only [zjL];go_simp
     try with_reducible rfl
    try simp only [zjL,Act.put,pA,pB,pC]
    refine tkY 3 zjM (v:=?_) rfl HL3 ?_ ?_
    rotate_left
    ·intro w hSw
     simp only [zjM];go_simp
     try with_reducible rfl
    try simp only [zjM,Act.put,pA,pB,pC]
    refine tkY 4 zjN (v:=?_) rfl HL3 ?_ ?_
    rotate_left
    ·intro w hSw
     simp only [zjN];go_simp
     try with_reducible rfl
    try simp only [zjN,Act.put,pA,pB,pC]
    refine wpAnyH_ready (rs:=[5]) (by kernel_rfl) (by simp) ?_
    refine AllReadyH.cons (o:=zjO) rfl (fun K hK=>?_) AllReadyH.nil
    simp only [zjO];go_simp
    refine ZI.out.mono ?_
    rintro e V4 ⟨a4,q4,c4,b4,rfl,k4,hc4,hd4,hf4,ht4⟩
    have HL4:Lies V4 gb 111 [.int .i64 j,.slice ca n cc]:=HL3.kept k4 (fun e=>by
     have:=HAP.out e
     omega)
    have HK4:=dq k4
    have HF4:=dq hf4
    have HT4:=dq ht4
    clear k4 hf4 ht4
    go_wp2_with (fail)
    refine hK.out _ _ HL4 (fun hHeld=>?_)
    clear hK K hHeld
    try simp only [zjO,Act.put,pA,pB,pC]
    refine tkY 6 zjP (v:=?_) rfl HL4 ?_ ?_
    rotate_left
    ·intro w hSw
     simp only [zjP];go_simp
     try with_reducible rfl
    try simp only [zjP,Act.put,pA,pB,pC]
    refine tkY 7 zjQ (v:=?_) rfl HL4 ?_ ?_
    rotate_left
    ·intro w hSw
     simp only [zjQ];go_simp
     try with_reducible rfl
    try simp only [zjQ,Act.put,pA,pB,pC]
    refine tkY 8 zjR (v:=?_) rfl HL4 ?_ ?_
    rotate_left
    ·intro w hSw
     simp only [zjR];go_simp
     try with_reducible rfl
    try simp only [zjR,Act.put,pA,pB,pC]
    refine tkY 9 zjS (v:=?_) rfl HL4 ?_ ?_
    rotate_left
    ·intro w hSw
     simp only [zjS];go_simp
     try with_reducible rfl
    try simp only [zjS,Act.put,pA,pB,pC]
    refine wpAnyH_done (by kernel_rfl) ?_ _
    have HF:Hid (ChI oa L ch w (.returned (.tuple #[.slice a4 q4 c4,.bool b4])) V4):=dq (by
     refine ⟨a4,q4,c4,b4,rfl,HK3w.out.trans HK4.out (fun i hi e=>?_),hc4,hd4,fun h=>?_,fun h=>?_⟩
     ·rcases HFR.out i e with h | h
      ·exact h
      ·have:=HB2.out.size
       omega
     ·obtain ⟨e1,e2,e3,e4⟩:=HF4.out h
      exact ⟨by rw [HCH.out];exact zcl HOK.out HA.out (HO2.out.trans e1),e2,e3,e4⟩
     ·obtain ⟨B,e1,e2,e3,e4⟩:=HT4.out h
      refine ⟨A++B,by rw [HCH.out];exact zcm HOK.out HA.out (HO2.out.trans e1),?_,?_,fun i hi=>?_⟩
      ·rw [e2,List.length_append,List.length_append];omega
      ·rw [←List.append_assoc];exact e3
      ·rcases e4 i hi with h | h
       ·rcases HFR.out i h with h | h
        ·exact .inl h
        ·have:=HB2.out.size
         exact .inr (by omega)
       ·exact .inr (by omega))
    clear HL4 HT4 HF4 HK4
    go_wp2
    exact bodyPost_ret (v:=.tuple #[.slice a4 q4 c4,.bool b4]) (by simp [results,Tryz.results110,go_sem]) rfl HF.out
theorem zlY (j letter:Int):∀ (m:Nat) (rest:List (List Int)) (oa ca pv:Option Addr) (oc n cc pd q:Nat) (L:List It) (cs:List Int) (w:World),
  Pers w pv m pd rest→Its w oa oc L→L.length=q→Bag w ca cc cs→zaa cs=true→cs.length=n→q+2 ^ m≤100000000000→
  Calls Tryz.prog 110 #[.slice oa q oc,.agg #[.int .i64 j,.slice ca n cc],.slice pv m pd,.int .u64 letter] w (ChI oa L (choicesL j letter rest cs) w)
 | 0,rest,oa,ca,pv,oc,n,cc,pd,q,L,cs,w,P,HI0,hq,HC0,hr,hn,hb=>by
  obtain rfl:rest=[]:=List.eq_nil_of_length_eq_zero P.1
  exact zlW j letter oa ca pv oc n cc pd q L cs w HI0 hq HC0 hr hn hb
 | m+1,rest,oa,ca,pv,oc,n,cc,pd,q,L,cs,w,P,HI0,hq,HC0,hr,hn,hb=>
  zlX j letter m (dq (zlY j letter m)) rest oa ca pv oc n cc pd q L cs w P HI0 hq HC0 hr hn hb
end Go.Proofs.YtmnkjekjknhhjaaGreatDoor
