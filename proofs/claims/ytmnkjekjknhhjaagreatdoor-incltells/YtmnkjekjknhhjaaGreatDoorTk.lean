import Derived.Test.YtmnkjekjknhhjaaGreatDoorNn
import Derived.Test.YtmnkjekjknhhjaaGreatDoorQPd
import Derived.Test.YtmnkjekjknhhjaaGreatDoorDe
import Derived.Test.YtmnkjekjknhhjaaGreatDoorCk
import Derived.Test.YtmnkjekjknhhjaaGreatDoorOc
import Derived.Test.YtmnkjekjknhhjaaGreatDoorTc
import Derived.Test.YtmnkjekjknhhjaaGreatDoorTq
namespace Go.Proofs.YtmnkjekjknhhjaaGreatDoor
open Go.ChangeShapes Go.WideShapes Go.ChangeAt Go.RowKit
theorem Lins.cut {w:World} {a:Option Addr} {c:Nat} {s:List Lin} (h:Lins w a c s) {k:Nat} (hk:k≤s.length):Lins w a c (s.take k):=by
 obtain ⟨ls,e,P⟩:=h
 have hl:ls.length=s.length:=by rw [←e,zaG]
 have hk':(ls.take k).length=k:=by rw [List.length_take];omega
 refine ⟨ls.take k,by rw [←e];simp [lins,List.map_take],?_,fun l hl=>P.each l (List.mem_of_mem_take hl)⟩
 have:=P.row.cut (k:=k) (by omega)
 rw [hk']
 rwa [zgL] at this
end Go.Proofs.YtmnkjekjknhhjaaGreatDoor
namespace Go.Proofs.YtmnkjekjknhhjaaGreatDoor
open Go.ChangeShapes Go.WideShapes Go.ChangeAt Go.RowKit
structure Thin (s:List Lin):Prop where
 rise:zcH s
 each:∀ x∈s,Slim 45 8 x
 few:s.length≤6
theorem zqg {K:Nat} (hK:K≤9) {s:List Lin} (h:Wide K s):Thin (s.take 6):=
 ⟨⟨fun z hz=>h.rise.1 z (List.mem_of_mem_take hz),h.rise.2.sublist (List.take_sublist _ _)⟩,fun x hx=>(h.each x (List.mem_of_mem_take hx)).more (by omega) (Nat.le_trans (zeu hK) (by decide)),by rw [List.length_take];omega⟩
theorem zrQ:Thin []:=⟨zcI,fun x h=>by simp at h,Nat.zero_le _⟩
def zkG (w:World) (e:Ending) (w':World):Prop:=∃ sa sc s,e=.returned (.slice sa (s:List Lin).length sc)∧Lins w' sa sc s∧Thin s∧Below w.heap.size w w'
set_option maxRecDepth 100000 in
set_option maxHeartbeats 2000000 in
theorem zqh (a:Option Addr) (len cap:Nat) (zs:List Int) (w:World) (K0:Hid (Came w a len cap zs)) :
  Calls Tryz.prog 9 #[.slice a len cap] w (zkG w):=by
 have hK:=K0.out
 obtain ⟨hlen,hcap,hz⟩:len≤9223372036854775807∧len≤cap∧len≤zs.length:=⟨hK.1,hK.2.2.1,hK.2.2.2.1⟩
 clear hK
 go_enter Tryz.func9,Tryz.ntmps9
 go_wp2_with (fail)
 refine (znx 3000 w).mono ?_
 rintro e w1 ⟨rfl,m1,b1,_⟩
 have HK1:=dq (K0.out.below b1)
 have HM1:=dq m1
 have HB1:=dq b1
 clear m1 b1
 have Z:=zuP a len cap zs w1 HK1.out.1 HK1.out.2.1 HK1.out.2.2.1 HK1.out.2.2.2.1 (dq HK1.out.2.2.2.2)
 have HZ:=dq Z
 clear Z
 go_wp2_with (fail)
 refine HZ.out.mono ?_
 rintro e w2 ⟨a2,c2,rfl,B2,f2,b2⟩
 have hxl:(zs.take (min len 9)).length≤9:=by rw [List.length_take];omega
 have HR2:Hid (∀ k,k<(zs.take (min len 9)).length→RowAt w2 a2 (zs.take (min len 9)) k):=dq (fun k hk=>by
  obtain ⟨g,e,hc⟩:=B2.at hk
  have hk2:k<len:=by rw [List.length_take] at hk;omega
  obtain ⟨b,off,_,_,_,h1,h2⟩:=HK1.out.2.2.2.2 k hk2
  have e2:(zs.take (min len 9)).getD k 0=zs.getD k 0:=by
   rw [List.length_take] at hk
   rw [List.getD_eq_getElem?_getD,List.getD_eq_getElem?_getD,List.getElem?_take,if_pos (by omega)]
  refine ⟨g,0,e,by rw [Nat.zero_add];exact hc,B2.lt e,?_,?_⟩<;>rw [e2]<;>assumption)
 have HB2:=dq (HB1.out.trans (b2.mono HB1.out.size))
 have HM2:=dq (HM1.out.below b2)
 have hb2:=B2.le
 clear B2 f2 b2 HZ
 generalize zs.take (min len 9)=xs at HR2 hxl hb2 ⊢
 have Z:=Q.pattern_sh a2 xs.length c2 xs w2 (by omega) HR2
 generalize xs.length=xl at Z hxl hb2 ⊢
 have HZ:=dq Z
 clear Z HR2
 go_wp2_with (fail)
 refine HZ.out.mono ?_
 rintro e w3 ⟨a3,c3,ns,rfl,P3,hc,h1,h24,_,_,b3,S3⟩
 obtain ⟨x,hx,W3⟩:=zoA (T:=4) (by omega) (by omega) hc S3
 have hK9:max 1 xl≤9:=by omega
 have HTH:Hid (∃ s q S' o',zgN (some (3000,0,false)) ns 4=(s,q,some (3000,S',o'))∧Thin (s.take 6)):=dq (by
  have bd:=zmB (T:=4) (by omega) (by omega) hc h1 h24 (B:=3000) (by omega)
  by_cases hco:zbl ns []≤3000
  ·have e:=bd.1 hco
   rw [hx] at e
   exact ⟨_,_,_,_,e,zqg hK9 W3⟩
  ·obtain ⟨S',e⟩:=bd.2 hco
   exact ⟨_,_,_,_,e,zrQ⟩)
 have HB3:=dq (HB2.out.trans (b3.mono HB2.out.size))
 have HM3:=dq (HM2.out.below b3)
 have Z:=zsZ 4 (some ⟨w.heap.size,0,none⟩) a3 c3 ns (some (3000,0,false)) w3 ⟨w.heap.size,rfl,HM3.out,by omega,by omega,by omega⟩ (Option.some_ne_none _) P3 hc (by omega) (by omega) h1 h24
 obtain ⟨s,q,S',o',hns,TH⟩:=HTH.out
 rw [hns] at Z
 have hp3:=P3.le
 generalize ns.length=nl at Z hp3 h24 ⊢
 have HZ2:=dq Z
 clear Z P3 hc h1 b3 HZ
 go_wp2_with (fail)
 refine HZ2.out.mono ?_
 rintro e w4 ⟨sa,sc,rfl,L4,_,k4⟩
 have HB4:Hid (Below w.heap.size w w4):=dq (HB3.out.trans (k4.below (fun g e=>by injection e with e;injection e with e;omega) HB3.out.size))
 have HL4:=dq L4
 have HG4:=dq TH
 have hl4:=L4.le
 clear L4 TH hns k4 HZ2 HTH hx W3 S3
 generalize hsl:s.length=sl at hl4 ⊢
 have HSL:=dq hsl
 clear hsl
 by_cases h6:6<sl
 ·have HF:Hid (zkG w (.returned (.slice sa 6 sc)) w4):=dq (by
   have e:(s.take 6).length=6:=by rw [List.length_take,HSL.out];omega
   exact ⟨sa,sc,s.take 6,by rw [e],HL4.out.cut (by rw [HSL.out];omega),HG4.out,HB4.out⟩)
  have h6c:6≤sc:=by omega
  have h6i:(6:Int)<(sl:Int):=by omega
  go_wp2
  go_ret
  exact HF.out
 ·have HF:Hid (zkG w (.returned (.slice sa sl sc)) w4):=dq (by
   have e:s.take 6=s:=List.take_of_length_le (by rw [HSL.out];omega)
   have g:=HG4.out
   rw [e] at g
   exact ⟨sa,sc,s,by rw [HSL.out],HL4.out,g,HB4.out⟩)
  have h6i:¬(6:Int)<(sl:Int):=by omega
  go_wp2
  go_ret
  exact HF.out
end Go.Proofs.YtmnkjekjknhhjaaGreatDoor
namespace Go.Proofs.YtmnkjekjknhhjaaGreatDoor
open Go.ChangeShapes Go.WideShapes Go.ChangeAt Go.RowKit
theorem zgq {a b:List Int} (ha:zaa a=true) (hb:zaa b=true) (h:∀ t,a.getD t 0=b.getD t 0):a=b:=by
 refine zhC ?_ (fun j _=>h j)
 by_cases h1:a.length<b.length
 ·have h2:=za1 hb (by omega)
  rw [←h,zas (by omega)] at h2
  exact absurd rfl h2
 ·by_cases h3:b.length<a.length
  ·have h2:=za1 ha (by omega)
   rw [h,zas (by omega)] at h2
   exact absurd rfl h2
  ·omega
theorem znQ {a:List Int} (ha:zaa a=true) {k:Nat} (h:∀ t,k≤t→a.getD t 0=0):a.length≤k:=by
 by_cases h1:k<a.length
 ·exact absurd (h _ (by omega)) (za1 ha (by omega))
 ·omega
theorem zkH (t:Nat):∀ (ps:List (List Int)) (m:Nat),(∀ p∈ps,zaa p=true)→0≤zcz ps m t∧zcz ps m t≤ziY ps t
 | [],_,_=>⟨Int.le_refl _,Int.le_refl _⟩
 | p::r,m,h=>by
  have ih:=zkH t r (m/2) (fun q hq=>h q (List.mem_cons_of_mem _ hq))
  have hp:=(zae (h p (by simp)) t).1
  unfold zcz
  rw [zba]
  split<;>omega
theorem zjr (t:Nat):∀ (ps:List (List Int)) (m:Nat),(∀ p∈ps,p.length≤t)→zcz ps m t=0
 | [],_,_=>rfl
 | p::r,m,h=>by
  have ih:=zjr t r (m/2) (fun q hq=>h q (List.mem_cons_of_mem _ hq))
  have hp:=zas (l:=p) (j:=t) (h p (by simp))
  unfold zcz
  rw [ih,hp]
  simp
structure ItOk (s:List Lin) (x:It):Prop where
 lo:0≤x.j
 hi:x.j<(s.length:Int)
 small:Small 45 x.c
 len:x.c.length≤4
theorem zfR {s:List Lin} {x:It} (h:ItOk s x):zab s x.j.toNat∈s:=by
 have h1:=h.lo
 have h2:=h.hi
 have hk:x.j.toNat<s.length:=by omega
 have e:zab s x.j.toNat=s[x.j.toNat]:=by simp [zab,List.getD,hk]
 rw [e]
 exact List.getElem_mem hk
theorem zip {s:List Lin} (hs:Thin s) {x:It} (h:ItOk s x) (m:Nat):∃ c,chosenL x.c (zab s x.j.toNat).ps m=some c∧ItOk s ⟨x.j,halfL c⟩:=by
 have hS:=hs.each _ (zfR h)
 have hf:=hS.trim.few
 have h8:(45:Int)*((zab s x.j.toNat).ps.length:Nat)≤360:=by omega
 obtain ⟨c,e,hc⟩:=zb8 (K:=45) (by omega) (zab s x.j.toNat).ps 45 x.c m h.small (by omega) hS.pers (by omega)
 have hat:=zcQ _ _ _ _ e
 have hr:∀ p∈(zab s x.j.toNat).ps,zaa p=true:=fun p hp=>(hS.pers p hp).right
 have hsm:Small 85 c:=⟨hc.right,hc.len,fun j=>by
  have h1:=h.small.top j
  have h2:=zkH j (zab s x.j.toNat).ps m hr
  have h3:=hS.tot j
  rw [hat j]
  omega⟩
 have hh:=zlz hsm
 refine ⟨c,e,h.lo,h.hi,hh.2.more (by omega),znQ hh.2.right (fun t ht=>?_)⟩
 rw [zqb hsm,hat t,zas (by have:=h.len;omega),zjr t _ m (fun p hp=>Nat.le_trans (hS.pl p hp) ht)]
 rfl
theorem zrR {s:List Lin} (hs:Thin s) {k:Nat} (hk:k<s.length):ItOk s ⟨(k:Int),(zab s k).base⟩:=by
 have e:zab s k=s[k]:=by simp [zab,List.getD,hk]
 have hS:=hs.each _ (List.getElem_mem hk)
 rw [e]
 exact ⟨by show (0:Int)≤(k:Int);omega,by show (k:Int)<_;omega,hS.trim.base,hS.bl⟩
theorem zqi {s:List Lin} (hs:Thin s) (letter:Int):∀ (l:List It) (M:Mr) (O:List It),(∀ x∈l,ItOk s x)→zcy O→(∀ z∈O,ItOk s z)→zcy (itGo s letter l M O).1∧∀ z∈(itGo s letter l M O).1,ItOk s z
 | [],M,O,_,hO,h=>⟨hO,h⟩
 | x::r,M,O,hl,hO,h=>by
  have hx:=hl x (by simp)
  have h20:¬20<(zab s x.j.toNat).ps.length:=by have:=(hs.each _ (zfR hx)).trim.few;omega
  obtain ⟨O',e⟩:=zgO x (zab s x.j.toNat).ps letter (fun m=>by obtain ⟨c,e,_⟩:=zip hs hx m;exact ⟨c,e⟩) (2 ^ (zab s x.j.toNat).ps.length) 0 O
  have hA:=zge x _ letter _ 0 O O' hO e
  have hO':∀ z∈O',ItOk s z:=fun z hz=>by
   rcases (hA.2 z).1 hz with h1 | ⟨i,c,_,_,h3,_,h5⟩
   ·exact h z h1
   ·obtain ⟨c',e',k⟩:=zip hs hx i
    rw [h3] at e'
    injection e' with e'
    subst e'
    rw [h5];exact k
  generalize hp:spendM M ((2 ^ (zab s x.j.toNat).ps.length:Nat):Int)=p
  cases hv:p.1 with
  | false=>
   rw [zlG h20 hp hv]
   exact ⟨⟨fun z hz=>(by cases hz),List.Pairwise.nil⟩,fun z hz=>(by cases hz)⟩
  | true=>
   rw [zin h20 hp hv e]
   exact zqi hs letter r _ O' (fun z hz=>hl z (List.mem_cons_of_mem _ hz)) hA.1 hO'
theorem ziq {M:Mr} (h:M=none) (n:Int):spendM M n=(true,M):=by
 cases M with
 | none=>rfl
 | some p=>cases h
theorem zlJ {s:List Lin} (hs:Thin s) (letter:Int):∀ (l:List It) (M:Mr) (O:List It),M=none→(∀ x∈l,ItOk s x)→(itGo s letter l M O).2=(0,M)
 | [],M,O,_,_=>rfl
 | x::r,M,O,hM,hl=>by
  have hx:=hl x (by simp)
  have h20:¬20<(zab s x.j.toNat).ps.length:=by have:=(hs.each _ (zfR hx)).trim.few;omega
  obtain ⟨O',e⟩:=zgO x (zab s x.j.toNat).ps letter (fun m=>by obtain ⟨c,e,_⟩:=zip hs hx m;exact ⟨c,e⟩) (2 ^ (zab s x.j.toNat).ps.length) 0 O
  rw [zin (p:=(true,M)) h20 (ziq hM _) rfl e]
  exact zlJ hs letter r M O' hM (fun z hz=>hl z (List.mem_cons_of_mem _ hz))
theorem zqj:∀ (N:Nat) (l:List Nat),l.Nodup→(∀ x∈l,x<N)→l.length≤N
 | 0,l,_,h=>by
  cases l with
  | nil=>exact Nat.le_refl _
  | cons x r=>exact absurd (h x (by simp)) (Nat.not_lt_zero _)
 | N+1,l,hd,h=>by
  by_cases hN:N∈l
  ·have ih:=zqj N (l.erase N) (hd.sublist (List.erase_sublist ..)) (fun x hx=>by
    have h1:=(List.Nodup.mem_erase_iff hd).1 hx
    have h2:=h x h1.2
    have h3:=h1.1
    omega)
   rw [List.length_erase_of_mem hN] at ih
   omega
  ·have ih:=zqj N l hd (fun x hx=>by
    have h2:=h x hx
    have h3:x≠N:=fun e=>hN (e ▸ hx)
    omega)
   omega
theorem zgr {a b c d:Nat} (h:a*46+c=b*46+d) (hc:c<46) (hd:d<46):a=b∧c=d:=by omega
def zmM (x:It):Nat:=(((x.j.toNat*46+(x.c.getD 0 0).toNat)*46+(x.c.getD 1 0).toNat)*46+(x.c.getD 2 0).toNat)*46+(x.c.getD 3 0).toNat
theorem zbq {s:List Lin} {x:It} (h:ItOk s x) (t:Nat):(x.c.getD t 0).toNat<46:=by
 have:=h.small.top t
 omega
theorem ztb {s:List Lin} (hs:s.length≤6) {x:It} (h:ItOk s x):zmM x<26873856:=by
 have h0:=zbq h 0
 have h1:=zbq h 1
 have h2:=zbq h 2
 have h3:=zbq h 3
 have hj:x.j.toNat<6:=by have:=h.hi;have:=h.lo;omega
 unfold zmM
 omega
theorem zrS {s:List Lin} {x y:It} (hx:ItOk s x) (hy:ItOk s y) (h:zmM x=zmM y):x=y:=by
 unfold zmM at h
 obtain ⟨h,e3⟩:=zgr h (zbq hx 3) (zbq hy 3)
 obtain ⟨h,e2⟩:=zgr h (zbq hx 2) (zbq hy 2)
 obtain ⟨h,e1⟩:=zgr h (zbq hx 1) (zbq hy 1)
 obtain ⟨h,e0⟩:=zgr h (zbq hx 0) (zbq hy 0)
 have ej:x.j=y.j:=by have:=hx.lo;have:=hy.lo;omega
 have ec:x.c=y.c:=by
  refine zgq hx.small.right hy.small.right (fun t=>?_)
  have p1:=hx.small.pos t
  have p2:=hy.small.pos t
  by_cases ht:4≤t
  ·rw [zas (by have:=hx.len;omega),zas (by have:=hy.len;omega)]
  ·obtain rfl | rfl | rfl | rfl:t=0∨t=1∨t=2∨t=3:=by omega
   all_goals omega
 cases x;cases y
 simp only at ej ec
 rw [ej,ec]
theorem zkI {s:List Lin} (hs:Thin s) {l:List It} (hr:zcy l) (h:∀ x∈l,ItOk s x):l.length≤26873856:=by
 have hd:(l.map zmM).Nodup:=by
  refine List.pairwise_map.2 (List.Pairwise.imp_of_mem (fun {x y} hx hy hxy e=>?_) hr.2)
  have e2:=zrS (h x hx) (h y hy) e
  subst e2
  have:=zgc (hr.1 x hx)
  omega
 have:=zqj 26873856 (l.map zmM) hd (fun z hz=>by
  obtain ⟨x,hx,rfl⟩:=List.mem_map.1 hz
  exact ztb hs.few (h x hx))
 rwa [List.length_map] at this
theorem znR {s:List Lin} (hs:Thin s):∀ {l:List It},(∀ x∈l,ItOk s x)→zez s l≤l.length*256
 | [],_=>Nat.le_refl _
 | x::r,h=>by
  have ih:=znR hs (l:=r) (fun z hz=>h z (List.mem_cons_of_mem _ hz))
  have h8:=(hs.each _ (zfR (h x (by simp)))).trim.few
  have hp:2 ^ (zab s x.j.toNat).ps.length≤2 ^ 8:=Nat.pow_le_pow_right (by omega) h8
  rw [zgQ,List.length_cons]
  have e:(2:Nat) ^ 8=256:=rfl
  omega
theorem ze7 {s:List Lin} (hs:Thin s) {l:List It} (hr:zcy l) (h:∀ x∈l,ItOk s x):zez s l≤100000000000:=by
 have h1:=zkI hs hr h
 have h2:=znR hs h
 omega
end Go.Proofs.YtmnkjekjknhhjaaGreatDoor
