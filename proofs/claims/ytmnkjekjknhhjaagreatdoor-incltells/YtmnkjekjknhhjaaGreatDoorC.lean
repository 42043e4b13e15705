import Derived.Test.YtmnkjekjknhhjaaGreatDoorA
import Derived.Test.YtmnkjekjknhhjaaGreatDoorL
namespace Go.Proofs.YtmnkjekjknhhjaaGreatDoor
open Go.ChangeShapes Go.WideShapes Go.ChangeAt Go.RowKit
theorem zeN (n:Int) (w:World):Calls Tryz.prog 139 #[.int .i64 n] w fun e w'=>e=.returned (.bool (okN n))∧w=w':=by
 by_cases h:0≤n
 ·have e:okN n=decide (n≤1152921504606846976):=by simp [okN,h]
  have E:=dq e
  clear e
  go_enter Tryz.func139,Tryz.ntmps139
  go_wp2
  go_ret
  exact ⟨by rw [E.out];rfl,rfl⟩
 ·have e:okN n=false:=by simp [okN,h]
  have E:=dq e
  clear e
  go_enter Tryz.func139,Tryz.ntmps139
  go_wp2
  go_ret
  exact ⟨by rw [E.out];rfl,rfl⟩
theorem zm4 (a b:Int) (w:World) (ha:okN a=true) (hb:okN b=true) (h:a+b≤1152921504606846976) :
  Calls Tryz.prog 120 #[.int .i64 a,.int .i64 b] w fun e w'=>e=.returned (.tuple #[.int .i64 (a+b),.bool true])∧w=w':=by
 have A:=zaQ.1 ha
 have B:=zaQ.1 hb
 have h1:0≤a:=A.1
 have h2:a≤1152921504606846976:=A.2
 have h3:0≤b:=B.1
 have h4:b≤1152921504606846976:=B.2
 have h5:¬1152921504606846976-b<a:=by omega
 have HA:=dq ha
 have HB:=dq hb
 clear A B ha hb
 go_enter Tryz.func120,Tryz.ntmps120
 go_wp2_with (fail)
 refine (zeN _ _).mono ?_
 rintro e w' ⟨rfl,rfl⟩
 rw [HA.out]
 go_wp2_with (fail)
 refine (zeN _ _).mono ?_
 rintro e w' ⟨rfl,rfl⟩
 rw [HB.out]
 go_wp2
 go_ret2
 exact ⟨rfl,rfl⟩
theorem zo1 (a b:Int) (w:World) (ha:okN a=true) (hb:okN b=true) (h:1152921504606846976<a+b) :
  Calls Tryz.prog 120 #[.int .i64 a,.int .i64 b] w fun e w'=>e=.returned (.tuple #[.int .i64 0,.bool false])∧w=w':=by
 have A:=zaQ.1 ha
 have B:=zaQ.1 hb
 have h1:0≤a:=A.1
 have h2:a≤1152921504606846976:=A.2
 have h3:0≤b:=B.1
 have h4:b≤1152921504606846976:=B.2
 have h5:1152921504606846976-b<a:=by omega
 have HA:=dq ha
 have HB:=dq hb
 clear A B ha hb
 go_enter Tryz.func120,Tryz.ntmps120
 go_wp2_with (fail)
 refine (zeN _ _).mono ?_
 rintro e w' ⟨rfl,rfl⟩
 rw [HA.out]
 go_wp2_with (fail)
 refine (zeN _ _).mono ?_
 rintro e w' ⟨rfl,rfl⟩
 rw [HB.out]
 go_wp2
 go_ret2
 exact ⟨rfl,rfl⟩
theorem zhy (a b:Int) (w:World) (ha:okN a=true) (hb:okN b=true) (h:a+b≤1152921504606846976) :
  Calls Tryz.prog 88 #[.int .i64 a,.int .i64 b] w fun e w'=>e=.returned (.tuple #[.int .i64 (a+b),.bool true])∧w=w':=by
 have A:=zaQ.1 ha
 have B:=zaQ.1 hb
 have h1:0≤a:=A.1
 have h2:a≤1152921504606846976:=A.2
 have h3:0≤b:=B.1
 have h4:b≤1152921504606846976:=B.2
 have h5:¬1152921504606846976-a<b:=by omega
 have h6:¬a<0:=by omega
 have h7:¬b<0:=by omega
 have h8:¬1152921504606846976<a:=by omega
 clear A B ha hb
 go_enter Tryz.func88,Tryz.ntmps88
 go_wp2
 go_ret2
 exact ⟨rfl,rfl⟩
theorem zjX (a b:Int) (w:World) (ha:okN a=true) (hb:okN b=true) (h:1152921504606846976<a+b) :
  Calls Tryz.prog 88 #[.int .i64 a,.int .i64 b] w fun e w'=>e=.returned (.tuple #[.int .i64 0,.bool false])∧w=w':=by
 have A:=zaQ.1 ha
 have B:=zaQ.1 hb
 have h1:0≤a:=A.1
 have h2:a≤1152921504606846976:=A.2
 have h3:0≤b:=B.1
 have h4:b≤1152921504606846976:=B.2
 have h5:1152921504606846976-a<b:=by omega
 have h6:¬a<0:=by omega
 have h7:¬b<0:=by omega
 have h8:¬1152921504606846976<a:=by omega
 clear A B ha hb
 go_enter Tryz.func88,Tryz.ntmps88
 go_wp2
 go_ret2
 exact ⟨rfl,rfl⟩
theorem zgE (n:Int) (w:World):Calls Tryz.prog 133 #[.int .i64 n] w fun e w'=>e=.returned (.bool false)∧w=w':=by
 go_enter Tryz.func133,Tryz.ntmps133
 go_wp2
 go_ret
 exact ⟨rfl,rfl⟩
theorem zhP (x y:Int) (w:World):Calls Tryz.prog 103 #[.int .i64 x,.int .i64 y] w fun e w'=>e=.returned (.int .i64 (sgn x y))∧w=w':=by
 rcases zat x y with ⟨h,e⟩ | ⟨h,e⟩ | ⟨h,e⟩
 ·have E:=dq e
  clear e
  go_enter Tryz.func103,Tryz.ntmps103
  go_wp2_with (fail)
  refine (zgE _ _).mono ?_
  rintro e w' ⟨rfl,rfl⟩
  go_wp2_with (fail)
  refine (zgE _ _).mono ?_
  rintro e w' ⟨rfl,rfl⟩
  go_wp2
  go_ret
  exact ⟨by rw [E.out];rfl,rfl⟩
 ·have E:=dq e
  clear e
  subst h
  go_enter Tryz.func103,Tryz.ntmps103
  go_wp2_with (fail)
  refine (zgE _ _).mono ?_
  rintro e w' ⟨rfl,rfl⟩
  go_wp2_with (fail)
  refine (zgE _ _).mono ?_
  rintro e w' ⟨rfl,rfl⟩
  go_wp2
  go_ret
  exact ⟨by rw [E.out];rfl,rfl⟩
 ·have E:=dq e
  have h':¬x<y:=by omega
  clear e
  go_enter Tryz.func103,Tryz.ntmps103
  go_wp2_with (fail)
  refine (zgE _ _).mono ?_
  rintro e w' ⟨rfl,rfl⟩
  go_wp2_with (fail)
  refine (zgE _ _).mono ?_
  rintro e w' ⟨rfl,rfl⟩
  go_wp2
  go_ret
  exact ⟨by rw [E.out];rfl,rfl⟩
def zud (n:Int) (w:World) (e:Ending) (w':World):Prop:=∃ r:Int,0≤r∧r<n∧e=.returned (.int .i64 r)∧w=w'
theorem zi3 (v:Int) (n:Nat) (w:World) (hn:0<n) (hm:n≤9223372036854775807) (_h0 : -9223372036854775808≤v) (_h1:v≤9223372036854775807) :
  Calls Tryz.prog 10 #[.int .i64 v,.int .i64 n] w (zud n w):=by
 have hnz:¬(n:Int)=0:=by omega
 have hn1:¬(n:Int)<1:=by omega
 have hlo : -(n:Int)<v.tmod n:=by have:=Int.lt_tmod_of_pos v (show (0:Int)<n by omega);omega
 have hhi:v.tmod n<(n:Int):=Int.tmod_lt_of_pos v (by omega)
 go_enter Tryz.func10,Tryz.ntmps10
 go_wp2
 ·go_ret
  exact ⟨v.tmod n+n,by omega,by omega,rfl,rfl⟩
 ·go_ret
  exact ⟨v.tmod n,by omega,by omega,rfl,rfl⟩
theorem zo2 (a:Option Addr) (c:Nat) (xs:List Int) (w:World) (R:Bag w a c xs) (hb:xs.length≤1000) :
  Calls Tryz.prog 106 #[.slice a xs.length c] w (zc4 xs w):=by
 obtain ⟨v,w',hr,a',c',e,r,f,bel⟩:=zcw 31 31 Tryz.underlying31 a c xs w R (by omega)
 injection e with e
 subst e
 go_enter Tryz.func106,Tryz.ntmps106
 go_wp2_with (at_builtin;refine Lib.wpList_append_run _ rfl _ _ _ _ rfl _ _ rfl rfl _ _ hr ?_)
 go_ret
 exact ⟨a',c',rfl,r,f,bel⟩
theorem zm5 (a:Option Addr) (c:Nat) (xs:List Int) (w:World) (R:Bag w a c xs) (hb:xs.length≤1000) :
  Calls Tryz.prog 38 #[.slice a xs.length c] w (zc4 xs w):=by
 obtain ⟨v,w',hr,a',c',e,r,f,bel⟩:=zcw 22 22 Tryz.underlying22 a c xs w R (by omega)
 injection e with e
 subst e
 go_enter Tryz.func38,Tryz.ntmps38
 go_wp2_with (at_builtin;refine Lib.wpList_append_run _ rfl _ _ _ _ rfl _ _ rfl rfl _ _ hr ?_)
 go_ret
 exact ⟨a',c',rfl,r,f,bel⟩
theorem zjY (ad:Addr) (c:Nat) (xs:List Int) (w:World) (hc:∀ j u,(zhx xs)[j]? = some u→w.cell? (ad.add j)=some u) (hb:xs.length≤1000) :
  Calls Tryz.prog 38 #[.slice (some ad) xs.length c] w (zc4 xs w):=by
 obtain ⟨v,w',hr,a',c',e,r,f,bel⟩:=zhO 22 22 Tryz.underlying22 ad c xs w hc (by omega)
 injection e with e
 subst e
 clear hc
 go_enter Tryz.func38,Tryz.ntmps38
 go_wp2_with (at_builtin;refine Lib.wpList_append_run _ rfl _ _ _ _ rfl _ _ rfl rfl _ _ hr ?_)
 go_ret
 exact ⟨a',c',rfl,r,f,bel⟩
def ziQ (xs ys:List Int):Bool:=decide (xs=ys)
theorem zo3 (xs:List Int):ziQ xs xs=true:=by simp [ziQ]
theorem zq8 {xs ys:List Int} (h:xs.length≠ys.length):ziQ xs ys=false:=by
 simp only [ziQ,decide_eq_false_iff_not]
 rintro rfl
 exact h rfl
theorem zsz {xs ys:List Int} {k:Nat} (h:xs.getD k 0≠ys.getD k 0):ziQ xs ys=false:=by
 simp only [ziQ,decide_eq_false_iff_not]
 rintro rfl
 exact h rfl
theorem zq9 {xs ys:List Int} (hl:xs.length=ys.length) (h:∀ j,j<xs.length→xs.getD j 0=ys.getD j 0):ziQ xs ys=true:=by
 rw [zhC hl h];exact zo3 ys
theorem zue (a a':Option Addr) (c c':Nat) (xs ys:List Int) (w:World) (R:Bag w a c xs) (R':Bag w a' c' ys) :
  Calls Tryz.prog 20 #[.slice a xs.length c,.slice a' ys.length c'] w (zuM (.bool (ziQ xs ys)) w):=by
 have hle:=R.le
 have hle':=R'.le
 have HR:=dq R
 have HR':=dq R'
 clear R R'
 by_cases hl:xs.length=ys.length
 ·obtain ⟨n,hn⟩:∃ n,n=xs.length:=⟨_,rfl⟩
  have hl':n=ys.length:=hn.trans hl
  rw [←hn] at hle ⊢
  rw [←hl'] at hle' ⊢
  have HN:=dq hn.symm
  have HL:=dq hl'
  clear hn hl hl'
  go_enter Tryz.func20,Tryz.ntmps20
  go_wp2
  go_loopw [5] (fun i wr=>∃ k q:Nat,k≤n∧i=.int .i64 k∧wr=w.drewN q∧Hid (∀ j,j<k→xs.getD j 0=ys.getD j 0)) (fun i _=>n-(intOf i).toNat)
  case atStart=>exact ⟨0,0,Nat.zero_le _,rfl,rfl,dq (fun j h=>by omega)⟩
  case round=>
   obtain ⟨k,q,hk,rfl,rfl,HE⟩:=hrel
   by_cases hlt:k<n
   ·obtain ⟨g,rfl,hc⟩:=HR.out.at (k:=k) (by rw [HN.out];exact hlt)
    obtain ⟨g',rfl,hc'⟩:=HR'.out.at (k:=k) (by rw [←HL.out];exact hlt)
    by_cases he:xs.getD k 0=ys.getD k 0
    ·have HK:=dq he
     rw [←he] at hc'
     clear he
     generalize xs.getD k 0=z at hc hc'
     go_wp2
     go_quiet (fail)
     go_wp2
     go_roundw
     case rel=>exact ⟨k+1,_,by omega,by go_num,rfl,dq (fun j hj=>by
      by_cases e:j=k
      ·rw [e];exact HK.out
      ·exact HE.out j (by omega))⟩
     case measure=>simp [intOf];omega
    ·have HK:=dq (zsz he)
     have hne:¬xs.getD k 0=ys.getD k 0:=he
     clear he
     generalize xs.getD k 0=z at hc hne
     generalize ys.getD k 0=z' at hc' hne
     go_wp2
     go_quiet (fail)
     go_wp2
     go_ret
     exact ⟨by rw [HK.out];rfl,_,World.drewN_drewN _ _ _⟩
   ·go_wp2
    go_ret
    exact ⟨by rw [zq9 (by rw [HN.out,HL.out]) (fun j hj=>HE.out j (by rw [HN.out] at hj;omega))];rfl,_,rfl⟩
 ·have HK:=dq (zq8 hl)
  go_enter Tryz.func20,Tryz.ntmps20
  go_wp2
  go_ret
  exact ⟨by rw [HK.out];rfl,0,rfl⟩
end Go.Proofs.YtmnkjekjknhhjaaGreatDoor
namespace Go.Proofs.YtmnkjekjknhhjaaGreatDoor
open Go.ChangeShapes Go.WideShapes Go.ChangeAt Go.RowKit
theorem zkY {l:List Int} {n:Nat} {z:Int} (hn:l.length=n) (hz:l.getD (n-1) 0=z) (h12:n≤12) (hall:∀ j,j<n→okN (l.getD j 0)=true) (h0:0<n):zaa l=(((n:Int)==0) || (z != 0)):=by
 subst hn
 subst hz
 have hne:((l.length:Int)==0)=false:=by simp;rintro rfl;simp at h0
 rw [hne,Bool.false_or]
 by_cases hz:l.getD (l.length-1) 0=0
 ·rw [zom h0 hz,hz];rfl
 ·rw [zcx h12 (fun j hj=>zaQ.1 (hall j hj)) (fun _=>hz)]
  exact (bne_iff_ne.2 hz).symm
theorem zef:zaa []=true:=by decide
set_option maxHeartbeats 1000000 in
theorem za4 (a:Option Addr) (c:Nat) (xs:List Int) (w:World) (R:Bag w a c xs) :
  Calls Tryz.prog 40 #[.slice a xs.length c] w fun e w'=>e=.returned (.bool (zaa xs))∧w=w':=by
 have hle:=R.le
 have HR:=dq R
 clear R
 obtain ⟨n,hn⟩:∃ n,n=xs.length:=⟨_,rfl⟩
 rw [←hn] at hle ⊢
 have HN:=dq hn.symm
 clear hn
 by_cases h12:12<n
 ·have E:=dq (zja (l:=xs) (by rw [HN.out];exact h12))
  go_enter Tryz.func40,Tryz.ntmps40
  go_wp2
  go_ret
  exact ⟨by rw [E.out];rfl,rfl⟩
 ·go_enter Tryz.func40,Tryz.ntmps40
  go_wp2
  go_loop [10] (fun i=>∃ k:Nat,k≤n∧i=.int .i64 k∧Hid (∀ j,j<k→okN (xs.getD j 0)=true)) (fun i=>n-(intOf i).toNat)
  case atStart=>exact ⟨0,Nat.zero_le _,rfl,dq (fun j h=>by omega)⟩
  case round=>
   obtain ⟨k,hk,rfl,HE⟩:=hrel
   by_cases hlt:k<n
   ·obtain ⟨g,rfl,hc⟩:=HR.out.at (k:=k) (by rw [HN.out];exact hlt)
    by_cases h0:xs.getD k 0<0
    ·have E:=dq (zdB (l:=xs) (j:=k) (zhU.2 (.inl h0)))
     generalize xs.getD k 0=z at hc h0
     go_wp2
     go_ret
     exact ⟨by rw [E.out];rfl,rfl⟩
    ·by_cases h1:1152921504606846976<xs.getD k 0
     ·have E:=dq (zdB (l:=xs) (j:=k) (zhU.2 (.inr h1)))
      generalize xs.getD k 0=z at hc h0 h1
      go_wp2
      go_ret
      exact ⟨by rw [E.out];rfl,rfl⟩
     ·have E:=dq (show okN (xs.getD k 0)=true from zaQ.2 ⟨by omega,by omega⟩)
      generalize xs.getD k 0=z at hc h0 h1
      go_wp2
      go_round
      case rel=>exact ⟨k+1,by omega,by go_num,dq (fun j hj=>by
       by_cases e:j=k
       ·rw [e];exact E.out
       ·exact HE.out j (by omega))⟩
      case measure=>simp [intOf];omega
   ·by_cases h0:n=0
    ·subst h0
     obtain rfl:xs=[]:=List.eq_nil_of_length_eq_zero HN.out
     go_wp2
     go_ret
     exact ⟨by rw [zef];rfl,rfl⟩
    ·obtain ⟨g,rfl,hc⟩:=HR.out.at (k:=n-1) (by rw [HN.out];omega)
     generalize hz:xs.getD (n-1) 0=z at hc
     have E:=dq (zkY (l:=xs) HN.out hz (by omega) (fun j hj=>HE.out j (by omega)) (by omega))
     clear hz
     have hn1:(n:Int)-1=((n-1:Nat):Int):=by omega
     go_wp2
     go_ret
     exact ⟨by rw [E.out];rfl,rfl⟩
set_option maxHeartbeats 1000000 in
theorem zaS (a:Option Addr) (c:Nat) (xs:List Int) (w:World) (R:Bag w a c xs) :
  Calls Tryz.prog 47 #[.slice a xs.length c] w fun e w'=>e=.returned (.bool (zaa xs))∧w=w':=by
 have hle:=R.le
 have HR:=dq R
 clear R
 obtain ⟨n,hn⟩:∃ n,n=xs.length:=⟨_,rfl⟩
 rw [←hn] at hle ⊢
 have HN:=dq hn.symm
 clear hn
 by_cases h12:12<n
 ·go_enter Tryz.func47,Tryz.ntmps47
  go_wp2
  go_loop [7] (fun i=>∃ k:Nat,k≤n∧i=.int .i64 k∧Hid (∀ j,j<k→okN (xs.getD j 0)=true)) (fun i=>n-(intOf i).toNat)
  case atStart=>exact ⟨0,Nat.zero_le _,rfl,dq (fun j h=>by omega)⟩
  case round=>
   obtain ⟨k,hk,rfl,HE⟩:=hrel
   by_cases hlt:k<n
   ·obtain ⟨g,rfl,hc⟩:=HR.out.at (k:=k) (by rw [HN.out];exact hlt)
    by_cases h0:xs.getD k 0<0
    ·have E:=dq (zdB (l:=xs) (j:=k) (zhU.2 (.inl h0)))
     generalize xs.getD k 0=z at hc h0
     go_wp2
     go_ret
     exact ⟨by rw [E.out];rfl,rfl⟩
    ·by_cases h1:1152921504606846976<xs.getD k 0
     ·have E:=dq (zdB (l:=xs) (j:=k) (zhU.2 (.inr h1)))
      generalize xs.getD k 0=z at hc h0 h1
      go_wp2
      go_ret
      exact ⟨by rw [E.out];rfl,rfl⟩
     ·have E:=dq (show okN (xs.getD k 0)=true from zaQ.2 ⟨by omega,by omega⟩)
      generalize xs.getD k 0=z at hc h0 h1
      go_wp2
      go_round
      case rel=>exact ⟨k+1,by omega,by go_num,dq (fun j hj=>by
       by_cases e:j=k
       ·rw [e];exact E.out
       ·exact HE.out j (by omega))⟩
      case measure=>simp [intOf];omega
   ·have E:=dq (zja (l:=xs) (by rw [HN.out];exact h12))
    go_wp2
    go_ret
    exact ⟨by rw [E.out];rfl,rfl⟩
 ·go_enter Tryz.func47,Tryz.ntmps47
  go_wp2
  go_loop [7] (fun i=>∃ k:Nat,k≤n∧i=.int .i64 k∧Hid (∀ j,j<k→okN (xs.getD j 0)=true)) (fun i=>n-(intOf i).toNat)
  case atStart=>exact ⟨0,Nat.zero_le _,rfl,dq (fun j h=>by omega)⟩
  case round=>
   obtain ⟨k,hk,rfl,HE⟩:=hrel
   by_cases hlt:k<n
   ·obtain ⟨g,rfl,hc⟩:=HR.out.at (k:=k) (by rw [HN.out];exact hlt)
    by_cases h0:xs.getD k 0<0
    ·have E:=dq (zdB (l:=xs) (j:=k) (zhU.2 (.inl h0)))
     generalize xs.getD k 0=z at hc h0
     go_wp2
     go_ret
     exact ⟨by rw [E.out];rfl,rfl⟩
    ·by_cases h1:1152921504606846976<xs.getD k 0
     ·have E:=dq (zdB (l:=xs) (j:=k) (zhU.2 (.inr h1)))
      generalize xs.getD k 0=z at hc h0 h1
      go_wp2
      go_ret
      exact ⟨by rw [E.out];rfl,rfl⟩
     ·have E:=dq (show okN (xs.getD k 0)=true from zaQ.2 ⟨by omega,by omega⟩)
      generalize xs.getD k 0=z at hc h0 h1
      go_wp2
      go_round
      case rel=>exact ⟨k+1,by omega,by go_num,dq (fun j hj=>by
       by_cases e:j=k
       ·rw [e];exact E.out
       ·exact HE.out j (by omega))⟩
      case measure=>simp [intOf];omega
   ·by_cases h0:n=0
    ·subst h0
     obtain rfl:xs=[]:=List.eq_nil_of_length_eq_zero HN.out
     go_wp2
     go_ret
     exact ⟨by rw [zef];rfl,rfl⟩
    ·obtain ⟨g,rfl,hc⟩:=HR.out.at (k:=n-1) (by rw [HN.out];omega)
     generalize hz:xs.getD (n-1) 0=z at hc
     have E:=dq (zkY (l:=xs) HN.out hz (by omega) (fun j hj=>HE.out j (by omega)) (by omega))
     clear hz
     have hn1:(n:Int)-1=((n-1:Nat):Int):=by omega
     go_wp2
     go_ret
     exact ⟨by rw [E.out];rfl,rfl⟩
end Go.Proofs.YtmnkjekjknhhjaaGreatDoor
namespace Go.Proofs.YtmnkjekjknhhjaaGreatDoor
open Go.ChangeShapes Go.WideShapes Go.ChangeAt Go.RowKit
theorem Bag.trim {w:World} {a:Option Addr} {c:Nat} {xs:List Int} (h:Bag w a c xs):Bag w a c (trimL xs):=h.cut (zfo xs)
theorem zml {xs:List Int} {n k:Nat} (_hn:xs.length=n) (_hk:k≤n) (h:∀ i,k≤i→xs.getD i 0=0) (h':k=0∨xs.getD (k-1) 0≠0):(trimL xs).length=k:=by
 rw [zbo,znj xs k h h']
theorem zhQ {a:Option Addr} {m n c:Nat} (h:m=n):Ending.returned (.slice a m c)=.returned (.slice a n c):=by rw [h]
theorem zo4 (g c:Nat) (xs:List Int) (w:World) (R:Bag w (some ⟨g,0,none⟩) c xs) :
  Calls Tryz.prog 105 #[.slice (some ⟨g,0,none⟩) xs.length c] w fun e w'=>e=.returned (.slice (some ⟨g,0,none⟩) (trimL xs).length c)∧w=w':=by
 have hle:=R.le
 have HR:=dq R
 clear R
 obtain ⟨n,hn⟩:∃ n,n=xs.length:=⟨_,rfl⟩
 rw [←hn] at hle ⊢
 have HN:=dq hn.symm
 clear hn
 generalize hm:(trimL xs).length=m
 have HM:=dq hm
 clear hm
 go_enter Tryz.func105,Tryz.ntmps105
 go_wp2
 go_loop [3] (fun i=>∃ k:Nat,k≤n∧i=.int .i64 k∧Hid (∀ i,k≤i→xs.getD i 0=0)) (fun i=>(intOf i).toNat)
 case atStart=>exact ⟨n,Nat.le_refl _,rfl,dq (fun j h=>zas (by rw [HN.out];exact h))⟩
 case round=>
  obtain ⟨k,hk,rfl,HE⟩:=hrel
  by_cases hlt:0<k
  ·obtain ⟨g',e,hc⟩:=HR.out.at (k:=k-1) (by rw [HN.out];omega)
   injection e with e;injection e with e;subst e
   have hk1:(k:Int)-1=((k-1:Nat):Int):=by omega
   by_cases hz:xs.getD (k-1) 0=0
   ·have HZ:=dq hz
    rw [hz] at hc
    clear hz
    go_wp2
    go_round
    case rel=>exact ⟨k-1,by omega,rfl,dq (fun j hj=>by
     by_cases e:j=k-1
     ·rw [e];exact HZ.out
     ·exact HE.out j (by omega))⟩
    case measure=>simp [intOf];omega
   ·have E:Hid (m=k):=dq (HM.out.symm.trans (zml HN.out hk HE.out (.inr hz)))
    have hkc:k≤c:=by omega
    generalize xs.getD (k-1) 0=z at hc hz
    have hz':(z==0)=false:=by simpa using hz
    go_wp2
    go_ret
    exact ⟨zhQ E.out.symm,rfl⟩
  ·obtain rfl:k=0:=by omega
   have E:Hid (m=0):=dq (HM.out.symm.trans (zml HN.out hk HE.out (.inl rfl)))
   go_wp2
   go_ret
   exact ⟨zhQ E.out.symm,rfl⟩
theorem zra (w:World):Calls Tryz.prog 105 #[.slice none 0 0] w fun e w'=>e=.returned (.slice none 0 0)∧w=w':=by
 go_enter Tryz.func105,Tryz.ntmps105
 go_wp2
 go_loop [3] (fun i=>i=.int .i64 0) (fun _=>0)
 case atStart=>rfl
 case round=>
  obtain rfl:=hrel
  go_wp2
  go_ret
  exact ⟨rfl,rfl⟩
theorem zrb (a:Option Addr) (c:Nat) (xs:List Int) (w:World) (R:Bag w a c xs) :
  Calls Tryz.prog 105 #[.slice a xs.length c] w fun e w'=>e=.returned (.slice a (trimL xs).length c)∧w=w':=by
 rcases R.form with ⟨rfl,rfl,rfl⟩ | ⟨g,rfl⟩
 ·exact zra w
 ·exact zo4 g c xs w R
theorem zo5 (a:Option Addr) (c:Nat) (xs:List Int) (w:World) (R:Bag w a c xs) (hb:xs.length≤1000) :
  Calls Tryz.prog 72 #[.slice a xs.length c] w (zc4 (normL xs) w):=by
 have T:=zrb a c xs w R
 have R1:=R.trim
 have hl:(trimL xs).length≤1000:=by rw [zbo];have:=zfo xs;omega
 have HY:=dq (zeQ (l:=xs))
 have HN:=dq (zpm (l:=xs))
 have Z:=za4 a c (trimL xs) w R1
 have F:=zo2 a c (trimL xs) w R1 hl
 clear R R1 hl
 generalize trimL xs=ys at *
 cases hr:zaa ys with
 | true=>
  have E:=dq (HY.out hr)
  rw [hr] at Z
  clear HY HN hr
  go_enter Tryz.func72,Tryz.ntmps72
  go_wp2_with (fail)
  refine T.mono ?_
  rintro e w' ⟨rfl,rfl⟩
  go_wp2_with (fail)
  refine Z.mono ?_
  rintro e w' ⟨rfl,rfl⟩
  go_wp2_with (fail)
  refine F.mono ?_
  rintro e w' ⟨a',c',rfl,r,f,bel⟩
  go_wp2
  go_ret
  rw [E.out]
  exact ⟨a',c',rfl,r,f,bel⟩
 | false=>
  have E:=dq (HN.out hr)
  rw [hr] at Z
  clear HY HN hr
  go_enter Tryz.func72,Tryz.ntmps72
  go_wp2_with (fail)
  refine T.mono ?_
  rintro e w' ⟨rfl,rfl⟩
  go_wp2_with (fail)
  refine Z.mono ?_
  rintro e w' ⟨rfl,rfl⟩
  go_wp2
  go_ret
  rw [E.out]
  exact ⟨none,0,rfl,Bag.nil _,(fun _ e=>nomatch e),Below.refl _ _⟩
theorem zmm (g c:Nat) (xs:List Int) (w:World) (R:Bag w (some ⟨g,0,none⟩) c xs) (hb:xs.length≤1000) :
  Calls Tryz.prog 28 #[.slice (some ⟨g,0,none⟩) xs.length c] w (zc4 (normL xs) w):=by
 have hle:=R.le
 have HR:=dq R
 obtain ⟨n,hn⟩:∃ n,n=xs.length:=⟨_,rfl⟩
 have hl:(trimL xs).length≤1000:=by rw [zbo];have:=zfo xs;omega
 obtain ⟨v,w',hr,a',c',e,r,f,bel⟩:=zcw 31 31 Tryz.underlying31 _ c (trimL xs) w R.trim (by omega)
 injection e with e
 subst e
 have Z:=zaS a' c' (trimL xs) w' r
 have HY:=dq (zeQ (l:=xs))
 have HO:=dq (zpm (l:=xs))
 rw [←hn] at hle hb ⊢
 have HN:=dq hn.symm
 clear hn R
 obtain ⟨m,hm⟩:∃ m,m=(trimL xs).length:=⟨_,rfl⟩
 have HM:=dq hm.symm
 rw [←hm] at hr Z hl
 clear hm
 have HRR:Hid (Bag w' a' c' (trimL xs)):=dq r
 clear r
 go_enter Tryz.func28,Tryz.ntmps28
 go_wp2
 go_loop [3] (fun i=>∃ k:Nat,k≤n∧i=.int .i64 k∧Hid (∀ i,k≤i→xs.getD i 0=0)) (fun i=>(intOf i).toNat)
 case atStart=>exact ⟨n,Nat.le_refl _,rfl,dq (fun j h=>zas (by rw [HN.out];exact h))⟩
 case round=>
  obtain ⟨k,hk,rfl,HE⟩:=hrel
  have fin:∀ (Q:Prop),(k=m→Q)→(k=0∨xs.getD (k-1) 0≠0)→Q:=fun Q h h'=>h ((zml HN.out hk HE.out h').symm.trans HM.out)
  have HF:=dq fin
  clear fin
  by_cases hlt:0<k
  ·obtain ⟨g',e,hc⟩:=HR.out.at (k:=k-1) (by rw [HN.out];omega)
   injection e with e;injection e with e;subst e
   have hk1:(k:Int)-1=((k-1:Nat):Int):=by omega
   by_cases hz:xs.getD (k-1) 0=0
   ·have HZ:=dq hz
    rw [hz] at hc
    clear hz
    go_wp2
    go_round
    case rel=>exact ⟨k-1,by omega,rfl,dq (fun j hj=>by
     by_cases e:j=k-1
     ·rw [e];exact HZ.out
     ·exact HE.out j (by omega))⟩
    case measure=>simp [intOf];omega
   ·refine HF.out _ ?_ (.inr hz)
    rintro rfl
    have hkc:k≤c:=by omega
    generalize xs.getD (k-1) 0=z at hc hz
    have hz':(z==0)=false:=by simpa using hz
    clear HF HE
    cases hq:zaa (trimL xs) with
    | true=>
     have E:=dq (HY.out hq)
     rw [hq] at Z
     clear HY HO hq
     go_wp2_with (at_builtin;refine Lib.wpList_append_run _ rfl _ _ _ _ rfl _ _ rfl rfl _ _ hr ?_)
     refine Z.mono ?_
     rintro e w' ⟨rfl,rfl⟩
     go_wp2
     go_ret
     rw [E.out]
     exact ⟨a',c',zhQ HM.out.symm,HRR.out,f,bel⟩
    | false=>
     have E:=dq (HO.out hq)
     rw [hq] at Z
     clear HY HO hq
     go_wp2_with (at_builtin;refine Lib.wpList_append_run _ rfl _ _ _ _ rfl _ _ rfl rfl _ _ hr ?_)
     refine Z.mono ?_
     rintro e w' ⟨rfl,rfl⟩
     go_wp2
     go_ret
     rw [E.out]
     exact ⟨none,0,rfl,Bag.nil _,(fun _ e=>nomatch e),bel⟩
  ·obtain rfl:k=0:=by omega
   refine HF.out _ ?_ (.inl rfl)
   rintro rfl
   clear HF HE
   cases hq:zaa (trimL xs) with
   | true=>
    have E:=dq (HY.out hq)
    rw [hq] at Z
    clear HY HO hq
    go_wp2_with (at_builtin;refine Lib.wpList_append_run _ rfl _ _ _ _ rfl _ _ rfl rfl _ _ hr ?_)
    refine Z.mono ?_
    rintro e w' ⟨rfl,rfl⟩
    go_wp2
    go_ret
    rw [E.out]
    exact ⟨a',c',zhQ HM.out.symm,HRR.out,f,bel⟩
   | false=>
    have E:=dq (HO.out hq)
    rw [hq] at Z
    clear HY HO hq
    go_wp2_with (at_builtin;refine Lib.wpList_append_run _ rfl _ _ _ _ rfl _ _ rfl rfl _ _ hr ?_)
    refine Z.mono ?_
    rintro e w' ⟨rfl,rfl⟩
    go_wp2
    go_ret
    rw [E.out]
    exact ⟨none,0,rfl,Bag.nil _,(fun _ e=>nomatch e),bel⟩
theorem zog (w:World):Calls Tryz.prog 28 #[.slice none 0 0] w (zc4 [] w):=by
 obtain ⟨v,w',hr,a',c',e,r,f,bel⟩:=zfX 31 31 Tryz.underlying31 w
 injection e with e
 subst e
 have Z:=zaS a' c' [] w' r
 rw [zef] at Z
 have HRR:Hid (Bag w' a' c' []):=dq r
 clear r
 go_enter Tryz.func28,Tryz.ntmps28
 go_wp2
 go_loop [3] (fun i=>i=.int .i64 0) (fun _=>0)
 case atStart=>rfl
 case round=>
  obtain rfl:=hrel
  go_wp2_with (at_builtin;refine Lib.wpList_append_run _ rfl _ _ _ _ rfl _ _ rfl rfl _ _ hr ?_)
  refine Z.mono ?_
  rintro e w' ⟨rfl,rfl⟩
  go_wp2
  go_ret
  exact ⟨a',c',rfl,HRR.out,f,bel⟩
theorem zrc:normL []=[]:=by decide
theorem zkZ (a:Option Addr) (c:Nat) (xs:List Int) (w:World) (R:Bag w a c xs) (hb:xs.length≤1000) :
  Calls Tryz.prog 28 #[.slice a xs.length c] w (zc4 (normL xs) w):=by
 rcases R.form with ⟨rfl,rfl,rfl⟩ | ⟨g,rfl⟩
 ·rw [zrc];exact zog w
 ·exact zmm g c xs w R hb
end Go.Proofs.YtmnkjekjknhhjaaGreatDoor
namespace Go.Proofs.YtmnkjekjknhhjaaGreatDoor
open Go.ChangeShapes Go.WideShapes Go.ChangeAt Go.RowKit
theorem zrd {w w':World} {g n:Nat} (h:w'.ownsRow w.heap.size 3 1 (.slice (some ⟨g,0,none⟩) n n) n (madeCells (Value.int .i64 0).cells (n*1)).toList):Bag w' (some ⟨g,0,none⟩) n (tab n (fun _=>0)):=by
 have e:(madeCells (Value.int .i64 0).cells (n*1)).toList=zhx (tab n (fun _=>0)):=by
  rw [Nat.mul_one,show (Value.int .i64 0).cells=#[.int .i64 0] from rfl,toList_madeCells_one]
  apply List.ext_getElem
  ·rw [List.length_replicate,zaP,zaw]
  ·intro j h1 h2
   rw [List.getElem_replicate,zm3 (by rw [zaP] at h2;exact h2),zms]
 rw [e] at h
 obtain ⟨a,c,e1,r,_⟩:=zhN h
 injection e1 with e1 _ e2
 subst e1;subst e2
 exact r
theorem zar (w:World) {ops:Array Oper} {rest:List Oper} {o:Oper} {a:Act} {Q:Exit→Act→World→Prop} (hg:o.guard=none) (l c:Operand) (hop:o.op=Op.makeSlice 31 l c)
  (L C:Int) (n:Nat) (hl:a.eval l=.int .i64 L) (hc:a.eval c=.int .i64 C) (hL:L=n) (hC:C=n) (hn:n≤1000)
  (hK:∀ w',Bag w' (some ⟨w.heap.size,0,none⟩) n (tab n (fun _=>0))→Below w.heap.size w w'→wpList Tryz.prog ops Q rest (a.put o.dst (.slice (some ⟨w.heap.size,0,none⟩) n n)) w') :
  wpList Tryz.prog ops Q (o::rest) a w:=by
 obtain ⟨i,hi,hz,hsz,hby⟩:=info_parts Tryz.info3
 refine wpList_make_full w hg l c 31 hop w.heap.size 3 i _ 1 Tryz.underlying31 hi hz hsz .i64 .i64 L C n hl hc hL hC (by rw [hby];omega) (by unfold maxLen;omega) (Nat.le_refl _) ?_
 intro w' h1 h2
 exact hK w' (zrd h1) ((Below.refl _ _).grown h2 (Nat.le_refl _) (fun k e=>nomatch e))
theorem zre (t n:Int) (w:World) (h:ziR t n=false):Calls Tryz.prog 65 #[.int .i64 t,.int .i64 n] w (zc4 [] w):=by
 have H:t<0∨12≤t∨n<1∨1152921504606846976<n:=by
  have h':¬_:=fun e=>Bool.false_ne_true (h.symm.trans (zgG.2 e))
  omega
 clear h
 by_cases h1:t<0
 ·go_enter Tryz.func65,Tryz.ntmps65
  go_wp2
  go_ret
  exact ⟨none,0,rfl,Bag.nil _,(fun _ e=>nomatch e),Below.refl _ _⟩
 ·by_cases h2:12≤t
  ·go_enter Tryz.func65,Tryz.ntmps65
   go_wp2
   go_ret
   exact ⟨none,0,rfl,Bag.nil _,(fun _ e=>nomatch e),Below.refl _ _⟩
  ·by_cases h3:n<1
   ·go_enter Tryz.func65,Tryz.ntmps65
    go_wp2
    go_ret
    exact ⟨none,0,rfl,Bag.nil _,(fun _ e=>nomatch e),Below.refl _ _⟩
   ·have h4:1152921504606846976<n:=by omega
    go_enter Tryz.func65,Tryz.ntmps65
    go_wp2
    go_ret
    exact ⟨none,0,rfl,Bag.nil _,(fun _ e=>nomatch e),Below.refl _ _⟩
theorem zo6 (k:Nat) (n:Int) (w:World) (hk:k<12) (h1:1≤n) (h2:n≤1152921504606846976):Calls Tryz.prog 65 #[.int .i64 k,.int .i64 n] w (zc4 (tab (k+1) (fun j=>if j=k then n else 0)) w):=by
 have g1:¬((k:Int)<0):=by omega
 have g2:¬(12≤(k:Int)):=by omega
 have g3:¬(n<1):=by omega
 have g4:¬(1152921504606846976<n):=by omega
 go_enter Tryz.func65,Tryz.ntmps65
 go_wp2_with (at_make;refine zar _ rfl _ _ rfl _ _ (k+1) rfl rfl (by omega) (by omega) (by omega) ?_)
 intro w1 r1 b1
 obtain ⟨g,e,hc⟩:=r1.at (k:=k) (by rw [zaw];omega)
 injection e with e;injection e with e
 have hne:w.heap.size=g:=e
 have hfz:=r1.frozen k
 have R2:=dq (r1.set (j:=k) (by rw [zaw];omega) n)
 have B2:=dq (b1.setCell (p:=⟨w.heap.size,k,none⟩) (Nat.le_refl _) (.int .i64 n))
 subst hne
 clear r1 b1
 go_wp2
 go_ret
 exact ⟨_,_,zhQ (zaw _ _).symm,by have:=R2.out;rw [zfD] at this;exact this,fun g e=>by injection e with e;injection e with e;omega,B2.out⟩
theorem zsA (t n:Int) (w:World):Calls Tryz.prog 65 #[.int .i64 t,.int .i64 n] w (zc4 (zc5 t n) w):=by
 unfold zc5
 cases h:ziR t n with
 | false=>exact zre t n w h
 | true=>
  have H:=zgG.1 h
  obtain ⟨k,rfl⟩:∃ k:Nat,t=k:=⟨t.toNat,by omega⟩
  exact zo6 k n w (by omega) H.2.1 H.2.2
theorem zm6 (w:World) (x y:Int):Bag (w.alloc (.cells #[.int .i64 x,.int .i64 y] 3)) (some ⟨w.heap.size,0,none⟩) 2 [x,y]:=
 .inr ⟨_,[],rfl,rfl,by omega,Lies.new w 3 [.int .i64 x,.int .i64 y]⟩
theorem below_alloc (w:World) (o:Obj):Below w.heap.size w (w.alloc o):=(Below.refl _ _).alloc (Nat.le_refl _) o
end Go.Proofs.YtmnkjekjknhhjaaGreatDoor
namespace Go.Proofs.YtmnkjekjknhhjaaGreatDoor
open Go.ChangeShapes Go.WideShapes Go.ChangeAt Go.RowKit
theorem zuX (a:Option Addr) (c:Nat) (p q:Int) (w:World) (R:Bag w a c [p,q]) :
  Calls Tryz.prog 102 #[.slice a 2 c] w fun e w'=>e=.returned (.int .i64 (orI p q))∧w=w':=by
 obtain ⟨g,rfl,hc0⟩:=R.at (k:=0) (by simp)
 obtain ⟨g',e,hc1⟩:=R.at (k:=1) (by simp)
 injection e with e;injection e with e
 have hg:g=g':=e
 subst hg
 have hp:w.cell? ⟨g,0,none⟩=some (.int .i64 p):=hc0
 have hq:w.cell? ⟨g,1,none⟩=some (.int .i64 q):=hc1
 clear hc0 hc1 e R
 by_cases h0:p=0
 ·have H:Hid (orI p q=q):=dq (by simp [orI,h0])
  rw [h0] at hp
  clear h0
  by_cases h1:q=0
  ·rw [h1] at hq
   have HQ:=dq h1
   clear h1
   go_enter Tryz.func102,Tryz.ntmps102
   go_wp2
   go_loop [8] (fun i=>∃ k:Nat,k≤2∧i=.int .i64 k) (fun i=>2-(intOf i).toNat)
   case atStart=>exact ⟨0,Nat.zero_le _,rfl⟩
   case round=>
    obtain ⟨k,hk,rfl⟩:=hrel
    obtain rfl | rfl | rfl:k=0∨k=1∨k=2:=by omega
    ·go_wp2
     go_round
     case rel=>exact ⟨1,by omega,rfl⟩
     case measure=>simp [intOf]
    ·go_wp2
     go_round
     case rel=>exact ⟨2,by omega,rfl⟩
     case measure=>simp [intOf]
    ·go_wp2
     go_ret
     exact ⟨by rw [H.out,HQ.out];rfl,rfl⟩
  ·go_enter Tryz.func102,Tryz.ntmps102
   go_wp2
   go_loop [8] (fun i=>∃ k:Nat,k≤1∧i=.int .i64 k) (fun i=>2-(intOf i).toNat)
   case atStart=>exact ⟨0,Nat.zero_le _,rfl⟩
   case round=>
    obtain ⟨k,hk,rfl⟩:=hrel
    obtain rfl | rfl:k=0∨k=1:=by omega
    ·go_wp2
     go_round
     case rel=>exact ⟨1,by omega,rfl⟩
     case measure=>simp [intOf]
    ·go_wp2
     go_ret
     exact ⟨by rw [H.out];rfl,rfl⟩
 ·have H:Hid (orI p q=p):=dq (by simp [orI,h0])
  go_enter Tryz.func102,Tryz.ntmps102
  go_wp2
  go_loop [8] (fun i=>i=.int .i64 0) (fun _=>0)
  case atStart=>rfl
  case round=>
   obtain rfl:=hrel
   go_wp2
   go_ret
   exact ⟨by rw [H.out];rfl,rfl⟩
set_option maxHeartbeats 1000000 in
theorem zuf (a b:Option Addr) (c d:Nat) (xs ys:List Int) (w:World) (R:Bag w a c xs) (S:Bag w b d ys) :
  Calls Tryz.prog 132 #[.slice a xs.length c,.slice b ys.length d] w fun e w'=>e=.returned (.int .i64 (lex xs ys))∧w=w':=by
 have hle:=R.le
 have hle':=S.le
 obtain ⟨l,hl⟩:∃ l,l=xs.length:=⟨_,rfl⟩
 obtain ⟨m,hm⟩:∃ m,m=ys.length:=⟨_,rfl⟩
 rw [←hl] at hle ⊢
 rw [←hm] at hle' ⊢
 have HL:=dq hl.symm
 have HM:=dq hm.symm
 have HR:=dq R
 have HS:=dq S
 clear hl hm R S
 go_enter Tryz.func132,Tryz.ntmps132
 go_wp2
 go_loop [11] (fun i=>∃ k:Nat,k≤l∧i=.int .i64 k∧Hid (lex xs ys=lex (xs.drop k) (ys.drop k))) (fun i=>l-(intOf i).toNat)
 case atStart=>exact ⟨0,Nat.zero_le _,rfl,dq rfl⟩
 case round=>
  obtain ⟨k,hk,rfl,HE⟩:=hrel
  by_cases hlt:k<l
  ·obtain ⟨g,rfl,hc⟩:=HR.out.at (k:=k) (by rw [HL.out];exact hlt)
   by_cases hkm:k<m
   ·obtain ⟨g2,rfl,hd⟩:=HS.out.at (k:=k) (by rw [HM.out];exact hkm)
    have st:=znm (a:=xs) (b:=ys) (k:=k) (by rw [HL.out];exact hlt) (by rw [HM.out];exact hkm)
    have C:=zhP (xs.getD k 0) (ys.getD k 0) w
    rcases zat (xs.getD k 0) (ys.getD k 0) with ⟨h,e⟩ | ⟨h,e⟩ | ⟨h,e⟩
    ·rw [if_pos h] at st
     have H:=dq (HE.out.trans st)
     rw [e] at C
     clear st e h
     generalize xs.getD k 0=p at *
     generalize ys.getD k 0=q at *
     go_wp2_with (fail)
     refine C.mono ?_
     rintro e w' ⟨rfl,rfl⟩
     go_wp2
     go_ret
     exact ⟨by rw [H.out];rfl,rfl⟩
    ·rw [if_neg (by omega),if_neg (by omega)] at st
     have H:=dq (HE.out.trans st)
     rw [e] at C
     clear st e h
     generalize xs.getD k 0=p at *
     generalize ys.getD k 0=q at *
     go_wp2_with (fail)
     refine C.mono ?_
     rintro e w' ⟨rfl,rfl⟩
     go_wp2
     go_round
     case rel=>exact ⟨k+1,by omega,by go_num,H⟩
     case measure=>simp [intOf];omega
    ·rw [if_neg (by omega),if_pos h] at st
     have H:=dq (HE.out.trans st)
     rw [e] at C
     clear st e h
     generalize xs.getD k 0=p at *
     generalize ys.getD k 0=q at *
     go_wp2_with (fail)
     refine C.mono ?_
     rintro e w' ⟨rfl,rfl⟩
     go_wp2
     go_ret
     exact ⟨by rw [H.out];rfl,rfl⟩
   ·have H:=dq (HE.out.trans (zrt (a:=xs) (b:=ys) (k:=k) (by rw [HL.out];exact hlt) (by rw [HM.out];omega)))
    generalize xs.getD k 0=p at *
    go_wp2
    go_ret
    exact ⟨by rw [H.out];rfl,rfl⟩
  ·by_cases hlm:l<m
   ·have H:=dq (HE.out.trans (zsQ (a:=xs) (b:=ys) (k:=k) (by rw [HL.out];omega) (by rw [HM.out];omega)))
    go_wp2
    go_ret
    exact ⟨by rw [H.out];rfl,rfl⟩
   ·have H:=dq (HE.out.trans (znn (a:=xs) (b:=ys) (k:=k) (by rw [HL.out];omega) (by rw [HM.out];omega)))
    go_wp2
    go_ret
    exact ⟨by rw [H.out];rfl,rfl⟩
def Tells (n:Int) (w:World) (e:Ending) (w':World):Prop:=e=.returned (.int .i64 n)∧Below w.heap.size w w'
theorem cmp21 (a b:Option Addr) (c d:Nat) (xs ys:List Int) (w:World) (R:Bag w a c xs) (S:Bag w b d ys) :
  Calls Tryz.prog 101 #[.slice a xs.length c,.slice b ys.length d] w (Tells (cmpL xs ys) w):=by
 have Z:=za4 a c xs w R
 have Z2:=za4 b d ys w S
 cases hx:zaa xs with
 | false=>
  have H:=dq (zj4 (b:=ys) hx)
  rw [hx] at Z
  clear hx R S Z2
  go_enter Tryz.func101,Tryz.ntmps101
  go_wp2_with (fail)
  refine Z.mono ?_
  rintro e w' ⟨rfl,rfl⟩
  go_wp2
  go_ret
  exact ⟨by rw [H.out];rfl,Below.refl _ _⟩
 | true=>
  cases hy:zaa ys with
  | false=>
   have H:=dq (zj5 (a:=xs) hy)
   rw [hx] at Z
   rw [hy] at Z2
   clear hx hy R S
   go_enter Tryz.func101,Tryz.ntmps101
   go_wp2_with (fail)
   refine Z.mono ?_
   rintro e w' ⟨rfl,rfl⟩
   go_wp2_with (fail)
   refine Z2.mono ?_
   rintro e w' ⟨rfl,rfl⟩
   go_wp2
   go_ret
   exact ⟨by rw [H.out];rfl,Below.refl _ _⟩
  | true=>
   have H:=dq (zcg hx hy)
   rw [hx] at Z
   rw [hy] at Z2
   have C:=zhP xs.length ys.length w
   have C2:=zuf a b c d xs ys w R S
   clear hx hy R S
   generalize sgn xs.length ys.length=p at *
   generalize lex xs ys=q at *
   go_enter Tryz.func101,Tryz.ntmps101
   go_wp2_with (fail)
   refine Z.mono ?_
   rintro e w' ⟨rfl,rfl⟩
   go_wp2_with (fail)
   refine Z2.mono ?_
   rintro e w' ⟨rfl,rfl⟩
   go_wp2_with (fail)
   refine C.mono ?_
   rintro e w' ⟨rfl,rfl⟩
   go_wp2_with (fail)
   refine C2.mono ?_
   rintro e w' ⟨rfl,rfl⟩
   go_wp2_with (fail)
   refine (zuX (some ⟨w.heap.size,0,none⟩) 2 p q _ (zm6 w p q)).mono ?_
   rintro e w' ⟨rfl,rfl⟩
   go_wp2
   go_ret
   exact ⟨by rw [H.out];rfl,below_alloc _ _⟩
theorem zrf (a b:Option Addr) (c d:Nat) (xs ys:List Int) (w:World) (R:Bag w a c xs) (S:Bag w b d ys) (hx:zaa xs=true) (hy:zaa ys=true) (hne:xs.length≠ys.length) :
  Calls Tryz.prog 115 #[.slice a xs.length c,.slice b ys.length d] w (Tells (cmpL xs ys) w):=by
 have Z:=zaS a c xs w R
 have Z2:=zaS b d ys w S
 rw [hx] at Z
 rw [hy] at Z2
 have hc:=zcg hx hy
 by_cases hlt:xs.length<ys.length
 ·have H:Hid (cmpL xs ys = -1):=dq (by
   rw [hc]
   rcases zat xs.length ys.length with ⟨_,e⟩ | ⟨h,e⟩ | ⟨h,e⟩
   ·rw [e];rfl
   ·omega
   ·omega)
  clear hx hy R S hc
  go_enter Tryz.func115,Tryz.ntmps115
  go_wp2_with (fail)
  refine Z.mono ?_
  rintro e w' ⟨rfl,rfl⟩
  go_wp2_with (fail)
  refine Z2.mono ?_
  rintro e w' ⟨rfl,rfl⟩
  go_wp2
  go_ret
  exact ⟨by rw [H.out];rfl,Below.refl _ _⟩
 ·have H:Hid (cmpL xs ys=1):=dq (by
   rw [hc]
   rcases zat xs.length ys.length with ⟨_,e⟩ | ⟨h,e⟩ | ⟨h,e⟩
   ·omega
   ·omega
   ·rw [e];rfl)
  clear hx hy R S hc
  go_enter Tryz.func115,Tryz.ntmps115
  go_wp2_with (fail)
  refine Z.mono ?_
  rintro e w' ⟨rfl,rfl⟩
  go_wp2_with (fail)
  refine Z2.mono ?_
  rintro e w' ⟨rfl,rfl⟩
  go_wp2
  go_ret
  exact ⟨by rw [H.out];rfl,Below.refl _ _⟩
set_option maxHeartbeats 1000000 in
theorem zrg (a b:Option Addr) (c d n:Nat) (xs ys:List Int) (w:World) (R:Bag w a c xs) (S:Bag w b d ys) (hx:zaa xs=true) (hy:zaa ys=true) (hl:xs.length=n) (hm:ys.length=n) :
  Calls Tryz.prog 115 #[.slice a n c,.slice b n d] w (Tells (cmpL xs ys) w):=by
 have Z:=zaS a c xs w R
 have Z2:=zaS b d ys w S
 rw [hx,hl] at Z
 rw [hy,hm] at Z2
 have hle:=R.le
 have hle':=S.le
 rw [hl] at hle
 have HC:Hid (cmpL xs ys=lex xs ys):=dq (by
  rw [zcg hx hy]
  rcases zat xs.length ys.length with ⟨h,e⟩ | ⟨_,e⟩ | ⟨h,e⟩
  ·omega
  ·rw [e];rfl
  ·omega)
 have HL:=dq hl
 have HM:=dq hm
 have HR:=dq R
 have HS:=dq S
 clear hl hm R S hx hy hle'
 go_enter Tryz.func115,Tryz.ntmps115
 go_wp2_with (fail)
 refine Z.mono ?_
 rintro e w' ⟨rfl,rfl⟩
 go_wp2_with (fail)
 refine Z2.mono ?_
 rintro e w' ⟨rfl,rfl⟩
 clear Z Z2
 go_wp2
 go_loopw [26] (fun i wr=>∃ k q:Nat,k≤n∧i=.int .i64 k∧wr=w.drewN q∧Hid (lex xs ys=lex (xs.drop k) (ys.drop k))) (fun i _=>n-(intOf i).toNat)
 case atStart=>exact ⟨0,0,Nat.zero_le _,rfl,rfl,dq rfl⟩
 case round=>
  obtain ⟨k,q,hk,rfl,rfl,HE⟩:=hrel
  by_cases hlt:k<n
  ·obtain ⟨g,rfl,hc⟩:=HR.out.at (k:=k) (by rw [HL.out];exact hlt)
   obtain ⟨g2,rfl,hd⟩:=HS.out.at (k:=k) (by rw [HM.out];exact hlt)
   have st:=znm (a:=xs) (b:=ys) (k:=k) (by rw [HL.out];exact hlt) (by rw [HM.out];exact hlt)
   by_cases h1:xs.getD k 0<ys.getD k 0
   ·rw [if_pos h1] at st
    have H:=dq (HC.out.trans (HE.out.trans st))
    clear st
    generalize xs.getD k 0=p at *
    generalize ys.getD k 0=q at *
    go_wp2
    go_quiet (fail)
    go_wp2
    go_ret
    exact ⟨by rw [H.out];rfl,(zad _ _ _).trans (zad _ _ _)⟩
   ·by_cases h2:ys.getD k 0<xs.getD k 0
    ·rw [if_neg h1,if_pos h2] at st
     have H:=dq (HC.out.trans (HE.out.trans st))
     clear st
     generalize xs.getD k 0=p at *
     generalize ys.getD k 0=q at *
     go_wp2
     go_quiet (fail)
     go_wp2
     go_quiet (fail)
     go_wp2
     go_ret
     exact ⟨by rw [H.out];rfl,((zad _ _ _).trans (zad _ _ _)).trans (zad _ _ _)⟩
    ·rw [if_neg h1,if_neg h2] at st
     have H:=dq (HE.out.trans st)
     clear st
     generalize xs.getD k 0=p at *
     generalize ys.getD k 0=q at *
     go_wp2
     go_quiet (fail)
     go_wp2
     go_quiet (fail)
     go_wp2
     go_roundw
     case rel=>exact ⟨k+1,_,by omega,by go_num,rfl,H⟩
     case measure=>simp [intOf];omega
  ·have H:=dq (HC.out.trans (HE.out.trans (znn (a:=xs) (b:=ys) (k:=k) (by rw [HL.out];omega) (by rw [HM.out];omega))))
   go_wp2
   go_ret
   exact ⟨by rw [H.out];rfl,zad _ _ _⟩
theorem zoh (a b:Option Addr) (c d:Nat) (xs ys:List Int) (w:World) (R:Bag w a c xs) (S:Bag w b d ys) :
  Calls Tryz.prog 115 #[.slice a xs.length c,.slice b ys.length d] w (Tells (cmpL xs ys) w):=by
 cases hx:zaa xs with
 | false=>
  have Z:=zaS a c xs w R
  have H:=dq (zj4 (b:=ys) hx)
  rw [hx] at Z
  clear hx R S
  go_enter Tryz.func115,Tryz.ntmps115
  go_wp2_with (fail)
  refine Z.mono ?_
  rintro e w' ⟨rfl,rfl⟩
  go_wp2
  go_ret
  exact ⟨by rw [H.out];rfl,Below.refl _ _⟩
 | true=>
  cases hy:zaa ys with
  | false=>
   have Z:=zaS a c xs w R
   have Z2:=zaS b d ys w S
   have H:=dq (zj5 (a:=xs) hy)
   rw [hx] at Z
   rw [hy] at Z2
   clear hx hy R S
   go_enter Tryz.func115,Tryz.ntmps115
   go_wp2_with (fail)
   refine Z.mono ?_
   rintro e w' ⟨rfl,rfl⟩
   go_wp2_with (fail)
   refine Z2.mono ?_
   rintro e w' ⟨rfl,rfl⟩
   go_wp2
   go_ret
   exact ⟨by rw [H.out];rfl,Below.refl _ _⟩
  | true=>
   by_cases h:xs.length=ys.length
   ·rw [←h]
    exact zrg a b c d xs.length xs ys w R S hx hy rfl h.symm
   ·exact zrf a b c d xs ys w R S hx hy h
end Go.Proofs.YtmnkjekjknhhjaaGreatDoor
namespace Go.Proofs.YtmnkjekjknhhjaaGreatDoor
open Go.ChangeShapes Go.WideShapes Go.ChangeAt Go.RowKit
structure Bg where
 a:Option Addr
 c:Nat
 xs:List Int
def Bg.val (p:Bg):Value:=.slice p.a p.xs.length p.c
def zgF (ps:List Bg):List Value:=ps.map Bg.val
def zd6 (ps:List Bg):List (List Int):=ps.map Bg.xs
theorem zc9 (ps:List Bg):(zgF ps).length=ps.length:=List.length_map ..
theorem zcE (ps:List Bg):(zd6 ps).length=ps.length:=List.length_map ..
theorem zo7 {ps:List Bg} {k:Nat} (hk:k<ps.length):(zd6 ps).getD k []=(ps[k]).xs:=by simp [zd6,List.getD,hk]
theorem zm7 (ps:List Bg):∀ x∈zgF ps,x.oneCell'=true:=fun x hx=>by
 obtain ⟨z,_,rfl⟩:=List.mem_map.1 hx
 rfl
structure Bgs (w:World) (a:Option Addr) (c:Nat) (ps:List Bg):Prop where
 row:Row w 31 a c (zgF ps)
 each:∀ p∈ps,Bag w p.a p.c p.xs
def Bags (w:World) (a:Option Addr) (c:Nat) (xss:List (List Int)):Prop:=∃ ps,zd6 ps=xss∧Bgs w a c ps
def From (B:Nat) (a:Option Addr):Prop:=∀ g,a=some ⟨g,0,none⟩→B≤g
theorem From.none (B:Nat):From B none:=fun _ e=>nomatch e
theorem From.mono {B B':Nat} {a:Option Addr} (h:From B a) (hb:B'≤B):From B' a:=fun g e=>Nat.le_trans hb (h g e)
section
variable {w w':World} {a:Option Addr} {c:Nat} {ps:List Bg} {xss:List (List Int)}
theorem Bgs.nil (w:World):Bgs w none 0 []:=⟨Row.nil w _,fun p h=>by simp at h⟩
theorem Bgs.below (h:Bgs w a c ps) (k:Below w.heap.size w w'):Bgs w' a c ps:=⟨h.row.below k,fun p hp=>(h.each p hp).below k⟩
theorem Bgs.le (h:Bgs w a c ps):ps.length≤c∧c≤9223372036854775807:=by
 have:=h.row.le
 rwa [zc9] at this
theorem Bgs.at (h:Bgs w a c ps) {k:Nat} (hk:k<ps.length):∃ g,a=some ⟨g,0,none⟩∧w.cell? ⟨g,k,none⟩=some (ps[k]).val∧Bag w (ps[k]).a (ps[k]).c (ps[k]).xs:=by
 obtain ⟨g,e,hc⟩:=h.row.there (i:=k) (by rw [zc9];exact hk)
 exact ⟨g,e,hc.trans (by simp [zgF]),h.each _ (List.getElem_mem hk)⟩
theorem Bags.nil (w:World):Bags w none 0 []:=⟨[],rfl,Bgs.nil w⟩
theorem Bags.below (h:Bags w a c xss) (k:Below w.heap.size w w'):Bags w' a c xss:=by
 obtain ⟨ps,hl,h⟩:=h
 exact ⟨ps,hl,h.below k⟩
theorem Bags.at (h:Bags w a c xss) {k:Nat} (hk:k<xss.length):∃ g b d,a=some ⟨g,0,none⟩∧w.cell? ⟨g,k,none⟩=some (.slice b (xss.getD k []).length d)∧Bag w b d (xss.getD k []):=by
 obtain ⟨ps,rfl,h⟩:=h
 have hk':k<ps.length:=by rwa [zcE] at hk
 obtain ⟨g,e,hc,hb⟩:=h.at hk'
 rw [zo7 hk']
 exact ⟨g,_,_,e,hc,hb⟩
theorem Bags.le (h:Bags w a c xss):xss.length≤c∧c≤9223372036854775807:=by
 obtain ⟨ps,rfl,h⟩:=h
 have:=h.le
 rwa [zcE]
theorem Bags.lt (h:Bags w a c xss) {g:Nat} (e:a=some ⟨g,0,none⟩):g<w.heap.size:=by
 obtain ⟨ps,rfl,h⟩:=h
 exact h.row.lt e
theorem Bag.apart {b:Option Addr} {d:Nat} {xs:List Int} (h:Bag w b d xs) {vs:List Value} (r:Row w 31 a c vs) {g:Nat} (e:b=some ⟨g,0,none⟩):a≠some ⟨g,0,none⟩:=by
 rintro rfl
 subst e
 rcases h with ⟨h,_⟩ | ⟨g1,sp,h,_,_,l⟩
 ·cases h
 ·rcases r with ⟨h',_⟩ | ⟨g2,sp',h',_,_,l'⟩
  ·cases h'
  ·injection h with h;injection h with h
   injection h' with h';injection h' with h'
   subst h;subst h'
   exact l.other l' (by decide) rfl
theorem Bgs.keptEach (h:Bgs w a c ps) (k:Kept (fun g=>a=some ⟨g,0,none⟩) w w'):∀ p∈ps,Bag w' p.a p.c p.xs:=
 fun p hp=>(h.each p hp).kept k (fun _ e=>(h.each p hp).apart h.row e)
end
theorem Row.own {w:World} {t:TypeId} {a:Option Addr} {c:Nat} {xs:List Value} (h:Row w t a c xs):w.ownsRow 0 t 1 (.slice a xs.length c) xs.length xs:=by
 refine ⟨by rw [Nat.mul_one],?_⟩
 rcases h with ⟨rfl,rfl,rfl⟩ | ⟨g,sp,rfl,hc,hm,l⟩
 ·exact .inl ⟨rfl,rfl⟩
 ·refine .inr ⟨g,c,_,rfl,Nat.zero_le _,l,by omega,by unfold maxLen;omega,?_,?_⟩
  ·simp;omega
  ·simp
theorem Tryz.infoBag:(Tryz.prog.info? 31).map (fun i=>(i.zero,i.size,i.bytes))=some (some (.slice none 0 0),1,24):=by kernel_rfl
theorem ownBlock_slice (a:Option Addr) (n c:Nat) (g:Nat):(Value.slice a n c).ownBlock=some g↔∃ x,a=some x∧x.block=g:=by
 cases a<;>simp [Value.ownBlock]
def Appends (e:TypeId) (a:Option Addr) (xs ys:List Value) (w:World) (v:Value) (w':World):Prop:=
 ∃ a' c',v=.slice a' (xs.length+ys.length) c'∧Row w' e a' c' (xs++ys)∧Kept (fun g=>a=some ⟨g,0,none⟩) w w'∧∀ g,a'=some ⟨g,0,none⟩→a=some ⟨g,0,none⟩∨w.heap.size≤g
theorem zi4 (t ty e:TypeId) (hu:Tryz.prog.underlying t=some (.slice e)) (hinfo:(Tryz.prog.info? e).map (fun i=>(i.zero,i.size,i.bytes))=some (some (.slice none 0 0),1,24))
  (a:Option Addr) (c n:Nat) (xs:List Value) (w:World) (R:Row w e a c xs) (hn:n=xs.length) (ad:Addr) (m d:Nat) (ys:List Value) (hm:m=ys.length) (hc:∀ j u,ys[j]? = some u→w.cell? (ad.add j)=some u) (h1:∀ u∈ys,u.oneCell'=true) (hb:xs.length+ys.length≤1000000000000) :
  ∃ v w',(Builtin.append_ #[t,t] ty #[.slice a n c,.slice (some ad) m d]).run Tryz.prog w=.ok v w'∧Appends e a xs ys w v w':=by
 subst hn
 subst hm
 obtain ⟨i,hi,hz,hsz,hby⟩:=info_parts hinfo
 have hform:a=none∨∃ g,a=some ⟨g,0,none⟩:=by
  rcases R with ⟨e,_⟩ | ⟨g,_,e,_⟩
  ·exact .inl e
  ·exact .inr ⟨g,e⟩
 obtain ⟨v',w',hr,h2,h3,_,h5⟩:=run_append_own_at (P:=Tryz.prog) w 0 t ty e i _ 1 24 hu hi hz hsz hby (by simp [Value.cells]) (by omega) _ xs.length xs R.own
  ad ys.length d ys (by rw [Nat.mul_one]) hc h1 (by unfold maxLen;omega) (by omega) (Nat.zero_le _)
 obtain ⟨a',c',rfl,r',_⟩:=zhN h2
 rw [List.length_append] at hr h5
 refine ⟨_,w',hr,a',c',rfl,r',?_,fun g e=>?_⟩
 ·refine ⟨h3.os,h3.tape,h3.output,h3.size,fun g hg hx=>h3.block g hg (fun e=>?_)⟩
  obtain ⟨x,rfl,hx'⟩:=(ownBlock_slice a _ _ g).1 e.symm
  rcases hform with h | ⟨g',h⟩
  ·cases h
  ·injection h with h;subst h;subst hx';exact hx rfl
 ·subst e
  rcases h5 with h5 | h5
  ·obtain ⟨x,rfl,hx⟩:=(ownBlock_slice a xs.length c g).1 (by rw [←h5];rfl)
   rcases hform with h | ⟨g',h⟩
   ·cases h
   ·injection h with h;subst h;subst hx;exact .inl rfl
  ·have:g=w.heap.size:=by simpa [Value.ownBlock] using h5
   exact .inr (by omega)
theorem zhR (t ty e:TypeId) (hu:Tryz.prog.underlying t=some (.slice e)) (hinfo:(Tryz.prog.info? e).map (fun i=>(i.zero,i.size,i.bytes))=some (some (.slice none 0 0),1,24))
  (a:Option Addr) (c n:Nat) (xs:List Value) (w:World) (R:Row w e a c xs) (hn:n=xs.length) :
  ∃ v w',(Builtin.append_ #[t,t] ty #[.slice a n c,.slice none 0 0]).run Tryz.prog w=.ok v w'∧Appends e a xs [] w v w':=by
 subst hn
 obtain ⟨i,hi,hz,hsz,hby⟩:=info_parts hinfo
 refine ⟨_,_,run_append_owned_none (w:=w) 0 t ty e i 1 hu hi _ xs.length xs (by have:=R.own;exact this),a,c,by simp,by simpa using R,Kept.refl _ _,fun g e=>.inl e⟩
theorem zjZ (t ty e:TypeId) (hu:Tryz.prog.underlying t=some (.slice e)) (hinfo:(Tryz.prog.info? e).map (fun i=>(i.zero,i.size,i.bytes))=some (some (.slice none 0 0),1,24))
  (a:Option Addr) (c n:Nat) (xs:List Value) (w:World) (R:Row w e a c xs) (hn:n=xs.length) (b:Option Addr) (d m:Nat) (ys:List Value) (R':Row w e b d ys) (hm:m=ys.length) (h1:∀ u∈ys,u.oneCell'=true) (hb:xs.length+ys.length≤1000000000000) :
  ∃ v w',(Builtin.append_ #[t,t] ty #[.slice a n c,.slice b m d]).run Tryz.prog w=.ok v w'∧Appends e a xs ys w v w':=by
 rcases R' with ⟨rfl,rfl,rfl⟩ | ⟨g,sp,rfl,hc,hmx,hl⟩
 ·subst hm
  exact zhR t ty e hu hinfo a c n xs w R hn
 ·exact zi4 t ty e hu hinfo a c n xs w R hn _ m d ys hm (fun j u hj=>by rw [Addr.add_lit];exact zfW hl hj) h1 hb
end Go.Proofs.YtmnkjekjknhhjaaGreatDoor
namespace Go.Proofs.YtmnkjekjknhhjaaGreatDoor
open Go.ChangeShapes Go.WideShapes Go.ChangeAt Go.RowKit
theorem zj0 {l:List (List Int)} (h:∀ j,j<l.length→zaa (l.getD j [])=true∧l.getD j []≠[]∧(0<j→cmpL (l.getD (j-1) []) (l.getD j [])<0)):zdC l=true:=by
 induction l with
 | nil=>rfl
 | cons x r ih=>
  have h0:=h 0 (by simp)
  have ih:=ih (fun j hj=>by
   have:=h (j+1) (by simp;omega)
   refine ⟨by simpa using this.1,by simpa using this.2.1,fun hp=>?_⟩
   have q:=this.2.2 (by omega)
   obtain ⟨m,rfl⟩:∃ m,j=m+1:=⟨j-1,by omega⟩
   simpa using q)
  cases r with
  | nil=>simp [zdC] at h0 ⊢;exact ⟨h0.1,h0.2⟩
  | cons y s=>
   have h1:=(h 1 (by simp)).2.2 (by omega)
   have e:zdC (x::y::s)=(zaa x && decide (x≠[]) && decide (cmpL x y<0) && zdC (y::s)):=rfl
   rw [e,ih]
   have a:=h0.1
   have b:=h0.2.1
   simp at a b h1
   simp [a,b,h1]
theorem zo8 {l:List (List Int)} (h:zdC l=true) {j:Nat} (hj:j<l.length):zaa (l.getD j [])=true∧l.getD j []≠[]∧(0<j→cmpL (l.getD (j-1) []) (l.getD j [])<0):=by
 obtain ⟨g,p⟩:=zhW.1 h
 have e:l.getD j []=l[j]:=by simp [List.getD,hj]
 rw [e]
 refine ⟨(g _ (List.getElem_mem hj)).1,(g _ (List.getElem_mem hj)).2,fun h0=>?_⟩
 have e':l.getD (j-1) []=l[j-1]'(by omega):=by simp [List.getD,show j-1<l.length by omega]
 rw [e']
 exact List.pairwise_iff_getElem.1 p (j-1) j (by omega) hj (by omega)
theorem zeg {l:List (List Int)} {j:Nat} (hj:j<l.length) (h:¬(zaa (l.getD j [])=true∧l.getD j []≠[]∧(0<j→cmpL (l.getD (j-1) []) (l.getD j [])<0))):zdC l=false:=by
 rw [←Bool.not_eq_true]
 exact fun e=>h (zo8 e hj)
end Go.Proofs.YtmnkjekjknhhjaaGreatDoor
namespace Go.Proofs.YtmnkjekjknhhjaaGreatDoor
open Go.ChangeShapes Go.WideShapes Go.ChangeAt Go.RowKit
def TellsB (b:Bool) (w:World) (e:Ending) (w':World):Prop:=e=.returned (.bool b)∧Below w.heap.size w w'
theorem za5 (a pa:Option Addr) (c pc:Nat) (x:Lin) (w:World) (R:Bag w a c x.base) (P:Bags w pa pc x.ps) :
  Calls Tryz.prog 79 #[.agg #[.slice a x.base.length c,.slice pa x.ps.length pc]] w (TellsB (rightLin x) w):=by
 have hle:=P.le
 obtain ⟨n,hn⟩:∃ n,n=x.base.length:=⟨_,rfl⟩
 obtain ⟨m,hm⟩:∃ m,m=x.ps.length:=⟨_,rfl⟩
 have HB0:Hid (Below w.heap.size w (w.alloc (.cells #[.slice a n c,.slice pa m pc] 53))):=dq ((Below.refl _ _).alloc (Nat.le_refl _) _)
 have HX:Hid (Lies (w.alloc (.cells #[.slice a n c,.slice pa m pc] 53)) w.heap.size 53 [.slice a n c,.slice pa m pc]):=dq (Lies.new w _ _)
 have HS:Hid (w.heap.size<(w.alloc (.cells #[.slice a n c,.slice pa m pc] 53)).heap.size):=dq HX.out.lt
 have HR:Hid (Bag (w.alloc (.cells #[.slice a n c,.slice pa m pc] 53)) a c x.base):=dq (R.below HB0.out)
 have HP:Hid (Bags (w.alloc (.cells #[.slice a n c,.slice pa m pc] 53)) pa pc x.ps):=dq (P.below HB0.out)
 rw [←hm] at hle
 rw [←hn,←hm]
 have HN:=dq hn.symm
 have HM:=dq hm.symm
 clear R P hn hm
 go_enter Tryz.func79,Tryz.ntmps79
 go_wp2_with (fail)
 generalize w.alloc (.cells #[.slice a n c,.slice pa m pc] 53)=W at HB0 HX HS HR HP ⊢
 generalize hg:w.heap.size=gb at HX HS ⊢
 have HG:=dq hg
 clear hg
 have p0:W.cell? ⟨gb,0,none⟩=some (.slice a n c):=HX.out.cell 0
 have p1:W.cell? ⟨gb,1,none⟩=some (.slice pa m pc):=HX.out.cell 1
 go_wp2_with (fail)
 have Z:=zaS a c x.base W HR.out
 rw [HN.out] at Z
 refine Z.mono ?_
 rintro e w' ⟨rfl,rfl⟩
 clear Z
 cases hb:zaa x.base with
 | false=>
  have E:Hid (rightLin x=false):=dq (by simp [rightLin,hb])
  go_wp2
  go_ret
  exact ⟨by rw [E.out];rfl,HG.out ▸ HB0.out⟩
 | true=>
  have HB:=dq hb
  clear hb
  go_wp2
  go_loopw [12] (fun i wr=>∃ k:Nat,k≤m∧i=.int .i64 k∧Hid (Below W.heap.size W wr)∧Hid (∀ j,j<k→zaa (x.ps.getD j [])=true∧x.ps.getD j []≠[]∧(0<j→cmpL (x.ps.getD (j-1) []) (x.ps.getD j [])<0))) (fun i _=>m-(intOf i).toNat)
  case atStart=>exact ⟨0,Nat.zero_le _,rfl,dq (Below.refl _ _),dq (fun j h=>by omega)⟩
  case round=>
   obtain ⟨k,hk,rfl,HW,HE⟩:=hrel
   clear p0 p1
   have p1:wr.cell? ⟨gb,1,none⟩=some (.slice pa m pc):=(HW.out.cell (p:=⟨gb,1,none⟩) HS.out).trans (HX.out.cell 1)
   by_cases hlt:k<m
   ·obtain ⟨g,b,d,rfl,hc,hbag⟩:=(HP.out.below HW.out).at (k:=k) (by rw [HM.out];exact hlt)
    have Z:=zaS b d (x.ps.getD k []) wr hbag
    obtain ⟨l,hl⟩:∃ l,l=(x.ps.getD k []).length:=⟨_,rfl⟩
    rw [←hl] at hc Z
    have hll:=hbag.le
    rw [←hl] at hll
    have HL:=dq hl.symm
    have HK:=dq hbag
    clear hl hbag
    have HZ:=dq Z
    clear Z
    go_wp2_with (fail)
    refine HZ.out.mono ?_
    rintro e w' ⟨rfl,rfl⟩
    clear HZ
    cases hr:zaa (x.ps.getD k []) with
    | false=>
     have E:Hid (rightLin x=false):=dq (by
      have:=zeg (l:=x.ps) (j:=k) (by rw [HM.out];exact hlt) (fun h=>by rw [hr] at h;exact absurd h.1 (by decide))
      simp [rightLin,this])
     clear hr
     go_wp2
     go_ret
     exact ⟨by rw [E.out];rfl,HB0.out.trans (HW.out.mono (by have:=HS.out;have:=HG.out;omega))⟩
    | true=>
     have HRk:=dq hr
     clear hr
     by_cases h0:l=0
     ·subst h0
      have E:Hid (rightLin x=false):=dq (by
       have:=zeg (l:=x.ps) (j:=k) (by rw [HM.out];exact hlt) (fun h=>h.2.1 (List.eq_nil_of_length_eq_zero HL.out))
       simp [rightLin,this])
      go_wp2
      go_ret
      exact ⟨by rw [E.out];rfl,HB0.out.trans (HW.out.mono (by have:=HS.out;have:=HG.out;omega))⟩
     ·have HNe:Hid (x.ps.getD k []≠[]):=dq (fun e=>h0 (by rw [←HL.out,e];rfl))
      by_cases hz:k=0
      ·subst hz
       go_wp2
       go_round
       case rel=>exact ⟨1,by omega,by go_num,HW,dq (fun j hj=>by
        obtain rfl:j=0:=by omega
        exact ⟨HRk.out,HNe.out,fun h=>by omega⟩)⟩
       case measure=>simp [intOf];omega
      ·obtain ⟨g',b',d',eg,hc',hbag'⟩:=(HP.out.below HW.out).at (k:=k-1) (by rw [HM.out];omega)
       injection eg with eg
       injection eg with eg
       subst eg
       have Z:=zoh b' b d' d (x.ps.getD (k-1) []) (x.ps.getD k []) wr hbag' HK.out
       obtain ⟨l',hl'⟩:∃ l',l'=(x.ps.getD (k-1) []).length:=⟨_,rfl⟩
       have hll':=hbag'.le
       rw [←hl'] at hc' hll'
       rw [←hl',HL.out] at Z
       have HZ:=dq Z
       clear Z hbag' hl'
       have hk1:(k:Int)-1=((k-1:Nat):Int):=by omega
       go_wp2_with (fail)
       refine HZ.out.mono ?_
       rintro e w2 ⟨rfl,b2⟩
       clear HZ
       have HW2:Hid (Below W.heap.size W w2):=dq (HW.out.trans (b2.mono HW.out.size))
       clear b2
       generalize hv:cmpL (x.ps.getD (k-1) []) (x.ps.getD k [])=v
       by_cases hneg:v<0
       ·have HV:=dq hv
        clear hv
        have hx1:¬0≤v:=by omega
        have hl0:((l:Int)==0)=false:=by simp;omega
        go_wp2
        go_round
        case rel=>exact ⟨k+1,by omega,by go_num,HW2,dq (fun j hj=>by
         by_cases e:j=k
         ·rw [e];exact ⟨HRk.out,HNe.out,fun _=>by rw [HV.out];exact hneg⟩
         ·exact HE.out j (by omega))⟩
        case measure=>simp [intOf];omega
       ·have E:Hid (rightLin x=false):=dq (by
         have:=zeg (l:=x.ps) (j:=k) (by rw [HM.out];exact hlt) (fun h=>by have:=h.2.2 (by omega);omega)
         simp [rightLin,this])
        clear hv
        have hx1:0≤v:=by omega
        go_wp2
        go_ret
        exact ⟨by rw [E.out];rfl,HB0.out.trans (HW2.out.mono (by have:=HS.out;have:=HG.out;omega))⟩
   ·have E:Hid (rightLin x=true):=dq (by
     have:=zj0 (l:=x.ps) (fun j hj=>HE.out j (by rw [HM.out] at hj;omega))
     simp [rightLin,this,HB.out])
    go_wp2
    go_ret
    exact ⟨by rw [E.out];rfl,HB0.out.trans (HW.out.mono (by have:=HS.out;have:=HG.out;omega))⟩
end Go.Proofs.YtmnkjekjknhhjaaGreatDoor
namespace Go.Proofs.YtmnkjekjknhhjaaGreatDoor
open Go.ChangeShapes Go.WideShapes Go.ChangeAt Go.RowKit
theorem zo9 (a pa:Option Addr) (c pc:Nat) (x:Lin) (w:World) (R:Bag w a c x.base) (P:Bags w pa pc x.ps) :
  Calls Tryz.prog 99 #[.agg #[.slice a x.base.length c,.slice pa x.ps.length pc]] w (TellsB (zb0 x) w):=by
 have hle:=P.le
 obtain ⟨n,hn⟩:∃ n,n=x.base.length:=⟨_,rfl⟩
 obtain ⟨m,hm⟩:∃ m,m=x.ps.length:=⟨_,rfl⟩
 have HB0:Hid (Below w.heap.size w (w.alloc (.cells #[.slice a n c,.slice pa m pc] 53))):=dq ((Below.refl _ _).alloc (Nat.le_refl _) _)
 have HX:Hid (Lies (w.alloc (.cells #[.slice a n c,.slice pa m pc] 53)) w.heap.size 53 [.slice a n c,.slice pa m pc]):=dq (Lies.new w _ _)
 have HS:Hid (w.heap.size<(w.alloc (.cells #[.slice a n c,.slice pa m pc] 53)).heap.size):=dq HX.out.lt
 have HZ:Hid (Calls Tryz.prog 79 #[.agg #[.slice a n c,.slice pa m pc]] (w.alloc (.cells #[.slice a n c,.slice pa m pc] 53)) (TellsB (rightLin x) (w.alloc (.cells #[.slice a n c,.slice pa m pc] 53)))):=dq (by
  have:=za5 a pa c pc x _ (R.below HB0.out) (P.below HB0.out)
  rwa [←hn,←hm] at this)
 have HE:Hid (zb0 x=(rightLin x && decide (m=0))):=dq (by
  rw [hm]
  cases h:x.ps<;>simp [zb0,h])
 rw [←hm] at hle
 rw [←hn,←hm]
 clear R P hn hm
 go_enter Tryz.func99,Tryz.ntmps99
 go_wp2_with (fail)
 generalize w.alloc (.cells #[.slice a n c,.slice pa m pc] 53)=W at HB0 HX HS HZ ⊢
 generalize hg:w.heap.size=gb at HX HS ⊢
 have HG:=dq hg
 clear hg
 have p0:W.cell? ⟨gb,0,none⟩=some (.slice a n c):=HX.out.cell 0
 have p1:W.cell? ⟨gb,1,none⟩=some (.slice pa m pc):=HX.out.cell 1
 go_wp2_with (fail)
 refine HZ.out.mono ?_
 rintro e w' ⟨rfl,b1⟩
 clear HZ p0 p1
 have HB1:Hid (Below w.heap.size w w'):=dq (HB0.out.trans (b1.mono (by have:=HS.out;have:=HG.out;omega)))
 have p1:w'.cell? ⟨gb,1,none⟩=some (.slice pa m pc):=(b1.cell (p:=⟨gb,1,none⟩) HS.out).trans (HX.out.cell 1)
 clear b1
 generalize rightLin x=r at HE ⊢
 cases r with
 | false=>
  go_wp2
  go_ret
  exact ⟨by rw [HE.out];rfl,HB1.out⟩
 | true=>
  by_cases h0:m=0
  ·subst h0
   go_wp2
   go_ret
   exact ⟨by rw [HE.out];rfl,HB1.out⟩
  ·have hl0:((m:Int)==0)=false:=by simp;omega
   go_wp2
   go_ret
   exact ⟨by rw [HE.out];simp [h0],HB1.out⟩
end Go.Proofs.YtmnkjekjknhhjaaGreatDoor
namespace Go.Proofs.YtmnkjekjknhhjaaGreatDoor
open Go.ChangeShapes Go.WideShapes Go.ChangeAt Go.RowKit
end Go.Proofs.YtmnkjekjknhhjaaGreatDoor
namespace Go.Proofs.YtmnkjekjknhhjaaGreatDoor
open Go.ChangeShapes Go.WideShapes Go.ChangeAt Go.RowKit
def zk0 (xs:List Int):Bool:=xs.all (fun n=>decide (n=0))
theorem zrh {xs:List Int} {k:Nat} (hk:k<xs.length) (h:xs.getD k 0≠0):zk0 xs=false:=by
 rw [←Bool.not_eq_true]
 intro e
 have:=List.all_eq_true.1 e (xs[k]) (List.getElem_mem hk)
 rw [zaY hk] at h
 exact h (by simpa using this)
theorem zri {xs:List Int} (h:∀ j,j<xs.length→xs.getD j 0=0):zk0 xs=true:=by
 refine List.all_eq_true.2 fun n hn=>?_
 obtain ⟨j,hj,rfl⟩:=List.getElem_of_mem hn
 have:=h j hj
 rw [zaY hj] at this
 simpa using this
theorem zmn (xs:List Int):zfg xs=((normL xs).isEmpty && !zk0 xs):=by
 unfold zfg zk0
 congr 1
 rw [Bool.eq_iff_iff]
 simp
theorem zj1 (a:Option Addr) (c:Nat) (xs:List Int) (w:World) (R:Bag w a c xs) :
  Calls Tryz.prog 131 #[.slice a xs.length c] w fun e w'=>e=.returned (.bool (zk0 xs))∧w=w':=by
 have hle:=R.le
 obtain ⟨n,hn⟩:∃ n,n=xs.length:=⟨_,rfl⟩
 rw [←hn] at hle ⊢
 have HN:=dq hn.symm
 have HR:=dq R
 clear hn R
 go_enter Tryz.func131,Tryz.ntmps131
 go_wp2
 go_loop [7] (fun i=>∃ k:Nat,k≤n∧i=.int .i64 k∧Hid (∀ j,j<k→xs.getD j 0=0)) (fun i=>n-(intOf i).toNat)
 case atStart=>exact ⟨0,Nat.zero_le _,rfl,dq (fun j h=>by omega)⟩
 case round=>
  obtain ⟨k,hk,rfl,HE⟩:=hrel
  by_cases hlt:k<n
  ·obtain ⟨g,rfl,hc⟩:=HR.out.at (k:=k) (by rw [HN.out];exact hlt)
   by_cases h0:xs.getD k 0=0
   ·have HK:=dq h0
    rw [h0] at hc
    clear h0
    go_wp2
    go_round
    case rel=>exact ⟨k+1,by omega,by go_num,dq (fun j hj=>by
     by_cases e:j=k
     ·rw [e];exact HK.out
     ·exact HE.out j (by omega))⟩
    case measure=>simp [intOf];omega
   ·have HK:=dq (zrh (by rw [HN.out];exact hlt) h0)
    generalize xs.getD k 0=z at hc h0
    go_wp2
    go_ret
    exact ⟨by rw [HK.out];rfl,rfl⟩
  ·go_wp2
   go_ret
   exact ⟨by rw [zri (fun j hj=>HE.out j (by rw [HN.out] at hj;omega))];rfl,rfl⟩
end Go.Proofs.YtmnkjekjknhhjaaGreatDoor
namespace Go.Proofs.YtmnkjekjknhhjaaGreatDoor
open Go.ChangeShapes Go.WideShapes Go.ChangeAt Go.RowKit
theorem zj2 {a b:List Int} (h:cmpL a b<0):zaa a=true∧zaa b=true:=by
 cases ha:zaa a with
 | false=>rw [zj4 ha] at h;omega
 | true=>
  cases hb:zaa b with
  | false=>rw [zj5 hb] at h;omega
  | true=>exact ⟨rfl,rfl⟩
theorem zug {a b:List Int} (h:cmpL a b<0):b≠[]:=by
 rintro rfl
 obtain ⟨ha,hb⟩:=zj2 h
 rw [zcg ha hb] at h
 cases a with
 | nil=>simp [sgn,lex,orI] at h
 | cons x r=>
  rcases zat ((x::r).length:Nat) (([]:List Int).length:Nat) with ⟨h',e⟩ | ⟨h',e⟩ | ⟨h',e⟩
  ·simp at h';omega
  ·simp at h';omega
  ·rw [e] at h;simp [orI] at h
theorem zsl {p:List Int} (hp:zaa p=true) (hn:p≠[]):cmpL [] p<0:=by
 rw [zcg zef hp]
 cases p with
 | nil=>exact absurd rfl hn
 | cons x r=>
  rcases zat (([]:List Int).length:Nat) ((x::r).length:Nat) with ⟨h',e⟩ | ⟨h',e⟩ | ⟨h',e⟩
  ·rw [e];simp [orI]
  ·simp at h';omega
  ·simp at h';omega
def zb4 (l:List (List Int)) (k:Nat):List Int:=if k=0 then [] else l.getD (k-1) []
theorem right13 (a pa:Option Addr) (c pc:Nat) (x:Lin) (w:World) (R:Bag w a c x.base) (P:Bags w pa pc x.ps) :
  Calls Tryz.prog 70 #[.agg #[.slice a x.base.length c,.slice pa x.ps.length pc]] w (TellsB (rightLin x) w):=by
 have hle:=P.le
 obtain ⟨n,hn⟩:∃ n,n=x.base.length:=⟨_,rfl⟩
 obtain ⟨m,hm⟩:∃ m,m=x.ps.length:=⟨_,rfl⟩
 have HB0:Hid (Below w.heap.size w (w.alloc (.cells #[.slice a n c,.slice pa m pc] 53))):=dq ((Below.refl _ _).alloc (Nat.le_refl _) _)
 have HX:Hid (Lies (w.alloc (.cells #[.slice a n c,.slice pa m pc] 53)) w.heap.size 53 [.slice a n c,.slice pa m pc]):=dq (Lies.new w _ _)
 have HS:Hid (w.heap.size<(w.alloc (.cells #[.slice a n c,.slice pa m pc] 53)).heap.size):=dq HX.out.lt
 have HR:Hid (Bag (w.alloc (.cells #[.slice a n c,.slice pa m pc] 53)) a c x.base):=dq (R.below HB0.out)
 have HP:Hid (Bags (w.alloc (.cells #[.slice a n c,.slice pa m pc] 53)) pa pc x.ps):=dq (P.below HB0.out)
 rw [←hm] at hle
 rw [←hn,←hm]
 have HN:=dq hn.symm
 have HM:=dq hm.symm
 clear R P hn hm
 go_enter Tryz.func70,Tryz.ntmps70
 go_wp2_with (fail)
 generalize w.alloc (.cells #[.slice a n c,.slice pa m pc] 53)=W at HB0 HX HS HR HP ⊢
 generalize hg:w.heap.size=gb at HX HS ⊢
 have HG:=dq hg
 clear hg
 have p0:W.cell? ⟨gb,0,none⟩=some (.slice a n c):=HX.out.cell 0
 have p1:W.cell? ⟨gb,1,none⟩=some (.slice pa m pc):=HX.out.cell 1
 go_wp2
 go_loopw [3,9] (fun b i wr=>∃ (k:Nat) (ba:Option Addr) (bc:Nat),k≤m∧i=.int .i64 k∧b=.slice ba (zb4 x.ps k).length bc∧Hid (Bag W ba bc (zb4 x.ps k))∧Hid (Below W.heap.size W wr)∧Hid (∀ j,j<k→zaa (x.ps.getD j [])=true∧x.ps.getD j []≠[]∧(0<j→cmpL (x.ps.getD (j-1) []) (x.ps.getD j [])<0))) (fun _ i _=>m-(intOf i).toNat)
 case atStart=>exact ⟨0,none,0,Nat.zero_le _,rfl,rfl,dq (Bag.nil _),dq (Below.refl _ _),dq (fun j h=>by omega)⟩
 case round=>
  obtain ⟨k,ba,bc,hk,rfl,rfl,HA,HW,HE⟩:=hrel
  clear p0 p1
  have p0:wr.cell? ⟨gb,0,none⟩=some (.slice a n c):=(HW.out.cell (p:=⟨gb,0,none⟩) HS.out).trans (HX.out.cell 0)
  by_cases hlt:k<m
  ·obtain ⟨g,b,d,rfl,hc,hbag⟩:=(HP.out.below HW.out).at (k:=k) (by rw [HM.out];exact hlt)
   have HK:Hid (Bag W b d (x.ps.getD k [])):=dq (by
    obtain ⟨g',b',d',eg,hc',hbag'⟩:=HP.out.at (k:=k) (by rw [HM.out];exact hlt)
    injection eg with eg
    injection eg with eg
    subst eg
    have h2:=(HW.out.cell (p:=⟨g,k,none⟩) (HP.out.lt rfl)).symm.trans hc
    rw [hc'] at h2
    injection h2 with h2
    injection h2 with e1 _ e3
    subst e1;subst e3
    exact hbag')
   have Z:=cmp21 ba b bc d (zb4 x.ps k) (x.ps.getD k []) wr (HA.out.below HW.out) hbag
   have hab:=HA.out.le
   have hbl:=hbag.le
   generalize hl1:(zb4 x.ps k).length=l1 at Z hab ⊢
   generalize hl2:(x.ps.getD k []).length=l2 at Z hbl hc
   have HL2:=dq hl2
   have HZ:=dq Z
   clear Z hbag hl1 hl2
   go_wp2_with (fail)
   refine HZ.out.mono ?_
   rintro e w2 ⟨rfl,b2⟩
   clear HZ
   have HW2:Hid (Below W.heap.size W w2):=dq (HW.out.trans (b2.mono HW.out.size))
   clear b2
   generalize hv:cmpL (zb4 x.ps k) (x.ps.getD k [])=v
   by_cases hneg:v<0
   ·have HV:Hid (cmpL (zb4 x.ps k) (x.ps.getD k [])<0):=dq (by rw [hv];exact hneg)
    clear hv
    have hx1:¬0≤v:=by omega
    have HK2:Hid (Bag W b d (zb4 x.ps (k+1))):=dq (by unfold zb4;simpa using HK.out)
    have HL3:Hid (l2=(zb4 x.ps (k+1)).length):=dq (by unfold zb4;simpa using HL2.out.symm)
    go_wp2
    go_roundw
    case rel=>exact ⟨k+1,b,d,by omega,by go_num,by rw [HL3.out],HK2,HW2,dq (fun j hj=>by
     by_cases e:j=k
     ·rw [e]
      exact ⟨(zj2 HV.out).2,zug HV.out,fun h0=>by
       have:=HV.out
       unfold zb4 at this
       rwa [if_neg (by omega)] at this⟩
     ·exact HE.out j (by omega))⟩
    case measure=>simp [intOf];omega
   ·have E:Hid (rightLin x=false):=dq (by
     have:=zeg (l:=x.ps) (j:=k) (by rw [HM.out];exact hlt) (fun h=>by
      by_cases h0:k=0
      ·have:=zsl h.1 h.2.1
       unfold zb4 at hv
       rw [if_pos h0] at hv
       omega
      ·have:=h.2.2 (by omega)
       unfold zb4 at hv
       rw [if_neg h0] at hv
       omega)
     simp [rightLin,this])
    clear hv
    have hx1:0≤v:=by omega
    go_wp2
    go_ret
    exact ⟨by rw [E.out];rfl,HB0.out.trans (HW2.out.mono (by have:=HS.out;have:=HG.out;omega))⟩
  ·have E:Hid (rightLin x=zaa x.base):=dq (by
    have:=zj0 (l:=x.ps) (fun j hj=>HE.out j (by rw [HM.out] at hj;omega))
    simp [rightLin,this])
   have Z:=za4 a c x.base wr (HR.out.below HW.out)
   rw [HN.out] at Z
   have HZ:=dq Z
   clear Z
   go_wp2_with (fail)
   refine HZ.out.mono ?_
   rintro e w' ⟨rfl,rfl⟩
   go_wp2
   go_ret
   exact ⟨by rw [E.out];try rfl,HB0.out.trans (HW.out.mono (by have:=HS.out;have:=HG.out;omega))⟩
end Go.Proofs.YtmnkjekjknhhjaaGreatDoor
