import Derived.Test.YtmnkjekjknhhjaaGreatDoorG
namespace Go.Proofs.YtmnkjekjknhhjaaGreatDoor
open Go.ChangeShapes Go.WideShapes Go.ChangeAt Go.RowKit
def zoi (xs ys:List Int) (n k:Nat):List Int:=tab n (fun j=>if j<k then xs.getD j 0+ys.getD j 0 else 0)
theorem zhB (xs ys:List Int) (n k:Nat):(zoi xs ys n k).length=n:=zaw _ _
theorem zk7 {xs ys:List Int} {n:Nat}:tab n (fun _=>0)=zoi xs ys n 0:=zbk (fun j _=>by rw [if_neg (by omega)])
theorem znh {xs ys:List Int} {n k:Nat}:(zoi xs ys n k).set k (xs.getD k 0+ys.getD k 0)=zoi xs ys n (k+1):=by
 unfold zoi
 rw [zfD]
 refine zbk (fun j _=>?_)
 by_cases h:j=k
 ·subst h;rw [if_pos rfl,if_pos (by omega)]
 ·rw [if_neg h]
  by_cases h':j<k
  ·rw [if_pos h',if_pos (by omega)]
  ·rw [if_neg h',if_neg (by omega)]
theorem zni {xs ys:List Int} {n:Nat} (hn:n=max xs.length ys.length):zoi xs ys n n=addT xs ys:=by
 unfold zoi addT
 rw [←hn]
 exact zbk (fun j hj=>by rw [if_pos hj])
theorem zph (a b:Option Addr) (c d:Nat) (xs ys:List Int) (w:World) (R:Bag w a c xs) (hx:zaa xs=false) :
  Calls Tryz.prog 55 #[.slice a xs.length c,.slice b ys.length d] w (zdA (zbp xs ys) (zaz xs ys) w):=by
 have H:=dq (zpn (b:=ys) hx)
 have Z:=zaS a c xs w R
 rw [hx] at Z
 clear hx R
 go_enter Tryz.func55,Tryz.ntmps55
 go_wp2_with (fail)
 refine Z.mono ?_
 rintro e w' ⟨rfl,rfl⟩
 go_wp2
 go_ret2
 exact za0 H.out.2 H.out.1 (Below.refl _ _)
theorem zpi (a b:Option Addr) (c d:Nat) (xs ys:List Int) (w:World) (R:Bag w a c xs) (S:Bag w b d ys) (hx:zaa xs=true) (hy:zaa ys=false) :
  Calls Tryz.prog 55 #[.slice a xs.length c,.slice b ys.length d] w (zdA (zbp xs ys) (zaz xs ys) w):=by
 have H:=dq (zpo (a:=xs) hy)
 have Z:=zaS a c xs w R
 have Z2:=zaS b d ys w S
 rw [hx] at Z
 rw [hy] at Z2
 clear hx hy R S
 go_enter Tryz.func55,Tryz.ntmps55
 go_wp2_with (fail)
 refine Z.mono ?_
 rintro e w' ⟨rfl,rfl⟩
 go_wp2_with (fail)
 refine Z2.mono ?_
 rintro e w' ⟨rfl,rfl⟩
 go_wp2
 go_ret2
 exact za0 H.out.2 H.out.1 (Below.refl _ _)
set_option maxHeartbeats 2000000 in
set_option maxRecDepth 10000 in
theorem zro (a b:Option Addr) (c d:Nat) (xs ys:List Int) (w:World) (R:Bag w a c xs) (S:Bag w b d ys) (hx:zaa xs=true) (hy:zaa ys=true) (hle:xs.length<ys.length) :
  Calls Tryz.prog 55 #[.slice a xs.length c,.slice b ys.length d] w (zdA (zbp xs ys) (zaz xs ys) w):=by
 have Z:=zaS a c xs w R
 have Z2:=zaS b d ys w S
 rw [hx] at Z
 rw [hy] at Z2
 obtain ⟨l,hl⟩:∃ l,l=xs.length:=⟨_,rfl⟩
 obtain ⟨m,hm⟩:∃ m,m=ys.length:=⟨_,rfl⟩
 have hl12:l≤12:=by rw [hl];exact (zac.1 hx).1
 have hm12:m≤12:=by rw [hm];exact (zac.1 hy).1
 have hlm:l<m:=by rw [hl,hm];exact hle
 have HX:=dq hx
 have HY:=dq hy
 rw [←hl,←hm]
 rw [←hl] at Z
 rw [←hm] at Z2
 have HL:=dq hl.symm
 have HM:=dq hm.symm
 have HR:=dq R
 have HS:=dq S
 clear hl hm hx hy R S hle
 go_enter Tryz.func55,Tryz.ntmps55
 go_wp2_with (fail)
 refine Z.mono ?_
 rintro e w' ⟨rfl,rfl⟩
 go_wp2_with (fail)
 refine Z2.mono ?_
 rintro e w' ⟨rfl,rfl⟩
 clear Z Z2
 go_wp2_with (at_make;refine zar _ rfl _ _ rfl _ _ m rfl rfl rfl rfl (by omega) ?_)
 intro w1 r1 b1
 rw [zk7 (xs:=xs) (ys:=ys)] at r1
 have HR1:=dq r1
 clear r1
 go_wp2_with (fail)
 go_loopw [28] (fun i wr=>∃ k:Nat,k≤m∧i=.int .i64 k∧Hid (Bag wr (some ⟨w.heap.size,0,none⟩) m (zoi xs ys m k))∧Below w.heap.size w wr∧Hid (∀ j,j<k→xs.getD j 0+ys.getD j 0≤1152921504606846976)) (fun i _=>m-(intOf i).toNat)
 case atStart=>exact ⟨0,Nat.zero_le _,rfl,HR1,b1,dq (fun j h=>by omega)⟩
 case round=>
  clear HR1 b1
  obtain ⟨k,hk,rfl,HB,bel,HE⟩:=hrel
  by_cases hlt:k<m
  ·obtain ⟨g,e,hs⟩:=HB.out.at (k:=k) (by rw [zhB];omega)
   injection e with e;injection e with e
   have hg:w.heap.size=g:=e
   subst hg
   clear e
   generalize (zoi xs ys m k).getD k 0=z0 at hs
   have hf:=HB.out.frozen k
   have P:=HB.out.set (j:=k) (by rw [zhB];omega) (xs.getD k 0+ys.getD k 0)
   rw [znh] at P
   have p1:okN (xs.getD k 0)=true:=zaQ.2 (zae HX.out k)
   have p2:okN (ys.getD k 0)=true:=zaQ.2 (zae HY.out k)
   by_cases hkl:k<l
   ·obtain ⟨g',rfl,hc0⟩:=HR.out.at (k:=k) (by rw [HL.out];exact hkl)
    have hc:=(bel.cell (p:=⟨g',k,none⟩) (HR.out.lt rfl)).trans hc0
    clear hc0
    by_cases hkm:k<m
    ·obtain ⟨g2,rfl,hd0⟩:=HS.out.at (k:=k) (by rw [HM.out];exact hkm)
     have hd:=(bel.cell (p:=⟨g2,k,none⟩) (HS.out.lt rfl)).trans hd0
     clear hd0
     have HP:=dq P
     clear P
     by_cases hfit:xs.getD k 0+ys.getD k 0≤1152921504606846976
     ·have M:=zhy (xs.getD k 0) (ys.getD k 0) wr p1 p2 (by omega)
      have HF:Hid (∀ j,j<k+1→xs.getD j 0+ys.getD j 0≤1152921504606846976):=dq (fun j hj=>by
       by_cases e:j=k
       ·rw [e];exact hfit
       ·exact HE.out j (by omega))
      clear hfit HE
      clear p1 p2
      generalize xs.getD k 0=p at *
      generalize ys.getD k 0=q at *
      go_wp2_with (fail)
      refine M.mono ?_
      rintro e w' ⟨rfl,rfl⟩
      clear M
      go_wp2
      go_roundw
      case rel=>exact ⟨k+1,by omega,by go_num,HP,bel.setCell (Nat.le_refl _) _,HF⟩
      case measure=>simp [intOf];omega
     ·have M:=zjX (xs.getD k 0) (ys.getD k 0) wr p1 p2 (by omega)
      have H:=dq (zgH (a:=xs) (b:=ys) (j:=k) (by rw [HL.out,HM.out];omega) (by omega))
      clear hfit HE
      clear p1 p2
      generalize xs.getD k 0=p at *
      generalize ys.getD k 0=q at *
      go_wp2_with (fail)
      refine M.mono ?_
      rintro e w' ⟨rfl,rfl⟩
      clear M
      go_wp2
      go_ret2
      exact za0 H.out.2 H.out.1 bel
    ·exact absurd hkm (by omega)
   ·have q0:xs.getD k 0=0:=zas (by rw [HL.out];omega)
    rw [q0] at p1 P
    rw [Int.zero_add] at P
    have HP:=dq P
    clear P
    have hkm:k<m:=by omega
    obtain ⟨g2,rfl,hd0⟩:=HS.out.at (k:=k) (by rw [HM.out];exact hkm)
    have hd:=(bel.cell (p:=⟨g2,k,none⟩) (HS.out.lt rfl)).trans hd0
    clear hd0
    by_cases hfit:xs.getD k 0+ys.getD k 0≤1152921504606846976
    ·have M:=zhy 0 (ys.getD k 0) wr p1 p2 (by omega)
     have HF:Hid (∀ j,j<k+1→xs.getD j 0+ys.getD j 0≤1152921504606846976):=dq (fun j hj=>by
      by_cases e:j=k
      ·rw [e];exact hfit
      ·exact HE.out j (by omega))
     clear hfit HE
     clear p1 p2 q0
     generalize ys.getD k 0=q at *
     go_wp2_with (fail)
     refine M.mono ?_
     rintro e w' ⟨rfl,rfl⟩
     clear M
     go_wp2
     go_roundw
     case rel=>exact ⟨k+1,by omega,by go_num,HP,bel.setCell (Nat.le_refl _) _,HF⟩
     case measure=>simp [intOf];omega
    ·have M:=zjX 0 (ys.getD k 0) wr p1 p2 (by omega)
     have H:=dq (zgH (a:=xs) (b:=ys) (j:=k) (by rw [HL.out,HM.out];omega) (by omega))
     clear hfit HE
     clear p1 p2 q0
     generalize ys.getD k 0=q at *
     go_wp2_with (fail)
     refine M.mono ?_
     rintro e w' ⟨rfl,rfl⟩
     clear M
     go_wp2
     go_ret2
     exact za0 H.out.2 H.out.1 bel
  ·obtain rfl:k=m:=by omega
   have H:=dq (zfE HX.out HY.out (fun j hj=>HE.out j (by rw [HL.out,HM.out] at hj;omega)))
   have E:zoi xs ys k k=addT xs ys:=zni (by rw [HL.out,HM.out];omega)
   have HE2:=dq E
   have HL2:Hid ((addT xs ys).length=k):=dq (by rw [zbR,HL.out,HM.out];omega)
   clear E
   go_wp2
   go_ret2
   rw [H.out.1,H.out.2]
   refine ⟨some ⟨w.heap.size,0,none⟩,k,by rw [HL2.out];rfl,?_,fun g e=>?_,bel⟩
   ·rw [←HE2.out];exact HB.out
   ·injection e with e;injection e with e;omega
set_option maxHeartbeats 2000000 in
set_option maxRecDepth 10000 in
theorem zrp (a b:Option Addr) (c d:Nat) (xs ys:List Int) (w:World) (R:Bag w a c xs) (S:Bag w b d ys) (hx:zaa xs=true) (hy:zaa ys=true) (hle:ys.length≤xs.length) :
  Calls Tryz.prog 55 #[.slice a xs.length c,.slice b ys.length d] w (zdA (zbp xs ys) (zaz xs ys) w):=by
 have Z:=zaS a c xs w R
 have Z2:=zaS b d ys w S
 rw [hx] at Z
 rw [hy] at Z2
 obtain ⟨l,hl⟩:∃ l,l=xs.length:=⟨_,rfl⟩
 obtain ⟨m,hm⟩:∃ m,m=ys.length:=⟨_,rfl⟩
 have hl12:l≤12:=by rw [hl];exact (zac.1 hx).1
 have hm12:m≤12:=by rw [hm];exact (zac.1 hy).1
 have hlm:m≤l:=by rw [hl,hm];exact hle
 have HX:=dq hx
 have HY:=dq hy
 rw [←hl,←hm]
 rw [←hl] at Z
 rw [←hm] at Z2
 have HL:=dq hl.symm
 have HM:=dq hm.symm
 have HR:=dq R
 have HS:=dq S
 clear hl hm hx hy R S hle
 go_enter Tryz.func55,Tryz.ntmps55
 go_wp2_with (fail)
 refine Z.mono ?_
 rintro e w' ⟨rfl,rfl⟩
 go_wp2_with (fail)
 refine Z2.mono ?_
 rintro e w' ⟨rfl,rfl⟩
 clear Z Z2
 go_wp2_with (at_make;refine zar _ rfl _ _ rfl _ _ l rfl rfl rfl rfl (by omega) ?_)
 intro w1 r1 b1
 rw [zk7 (xs:=xs) (ys:=ys)] at r1
 have HR1:=dq r1
 clear r1
 go_wp2_with (fail)
 go_loopw [28] (fun i wr=>∃ k:Nat,k≤l∧i=.int .i64 k∧Hid (Bag wr (some ⟨w.heap.size,0,none⟩) l (zoi xs ys l k))∧Below w.heap.size w wr∧Hid (∀ j,j<k→xs.getD j 0+ys.getD j 0≤1152921504606846976)) (fun i _=>l-(intOf i).toNat)
 case atStart=>exact ⟨0,Nat.zero_le _,rfl,HR1,b1,dq (fun j h=>by omega)⟩
 case round=>
  clear HR1 b1
  obtain ⟨k,hk,rfl,HB,bel,HE⟩:=hrel
  by_cases hlt:k<l
  ·obtain ⟨g,e,hs⟩:=HB.out.at (k:=k) (by rw [zhB];omega)
   injection e with e;injection e with e
   have hg:w.heap.size=g:=e
   subst hg
   clear e
   generalize (zoi xs ys l k).getD k 0=z0 at hs
   have hf:=HB.out.frozen k
   have P:=HB.out.set (j:=k) (by rw [zhB];omega) (xs.getD k 0+ys.getD k 0)
   rw [znh] at P
   have p1:okN (xs.getD k 0)=true:=zaQ.2 (zae HX.out k)
   have p2:okN (ys.getD k 0)=true:=zaQ.2 (zae HY.out k)
   by_cases hkl:k<l
   ·obtain ⟨g',rfl,hc0⟩:=HR.out.at (k:=k) (by rw [HL.out];exact hkl)
    have hc:=(bel.cell (p:=⟨g',k,none⟩) (HR.out.lt rfl)).trans hc0
    clear hc0
    by_cases hkm:k<m
    ·obtain ⟨g2,rfl,hd0⟩:=HS.out.at (k:=k) (by rw [HM.out];exact hkm)
     have hd:=(bel.cell (p:=⟨g2,k,none⟩) (HS.out.lt rfl)).trans hd0
     clear hd0
     have HP:=dq P
     clear P
     by_cases hfit:xs.getD k 0+ys.getD k 0≤1152921504606846976
     ·have M:=zhy (xs.getD k 0) (ys.getD k 0) wr p1 p2 (by omega)
      have HF:Hid (∀ j,j<k+1→xs.getD j 0+ys.getD j 0≤1152921504606846976):=dq (fun j hj=>by
       by_cases e:j=k
       ·rw [e];exact hfit
       ·exact HE.out j (by omega))
      clear hfit HE
      clear p1 p2
      generalize xs.getD k 0=p at *
      generalize ys.getD k 0=q at *
      go_wp2_with (fail)
      refine M.mono ?_
      rintro e w' ⟨rfl,rfl⟩
      clear M
      go_wp2
      go_roundw
      case rel=>exact ⟨k+1,by omega,by go_num,HP,bel.setCell (Nat.le_refl _) _,HF⟩
      case measure=>simp [intOf];omega
     ·have M:=zjX (xs.getD k 0) (ys.getD k 0) wr p1 p2 (by omega)
      have H:=dq (zgH (a:=xs) (b:=ys) (j:=k) (by rw [HL.out,HM.out];omega) (by omega))
      clear hfit HE
      clear p1 p2
      generalize xs.getD k 0=p at *
      generalize ys.getD k 0=q at *
      go_wp2_with (fail)
      refine M.mono ?_
      rintro e w' ⟨rfl,rfl⟩
      clear M
      go_wp2
      go_ret2
      exact za0 H.out.2 H.out.1 bel
    ·have q0:ys.getD k 0=0:=zas (by rw [HM.out];omega)
     rw [q0] at p2 P
     rw [Int.add_zero] at P
     have HP:=dq P
     clear P
     by_cases hfit:xs.getD k 0+ys.getD k 0≤1152921504606846976
     ·have M:=zhy (xs.getD k 0) 0 wr p1 p2 (by omega)
      have HF:Hid (∀ j,j<k+1→xs.getD j 0+ys.getD j 0≤1152921504606846976):=dq (fun j hj=>by
       by_cases e:j=k
       ·rw [e];exact hfit
       ·exact HE.out j (by omega))
      clear hfit HE
      clear p1 p2 q0
      generalize xs.getD k 0=p at *
      go_wp2_with (fail)
      refine M.mono ?_
      rintro e w' ⟨rfl,rfl⟩
      clear M
      go_wp2
      go_roundw
      case rel=>exact ⟨k+1,by omega,by go_num,HP,bel.setCell (Nat.le_refl _) _,HF⟩
      case measure=>simp [intOf];omega
     ·have M:=zjX (xs.getD k 0) 0 wr p1 p2 (by omega)
      have H:=dq (zgH (a:=xs) (b:=ys) (j:=k) (by rw [HL.out,HM.out];omega) (by omega))
      clear hfit HE
      clear p1 p2 q0
      generalize xs.getD k 0=p at *
      go_wp2_with (fail)
      refine M.mono ?_
      rintro e w' ⟨rfl,rfl⟩
      clear M
      go_wp2
      go_ret2
      exact za0 H.out.2 H.out.1 bel
   ·exact absurd hkl (by omega)
  ·obtain rfl:k=l:=by omega
   have H:=dq (zfE HX.out HY.out (fun j hj=>HE.out j (by rw [HL.out,HM.out] at hj;omega)))
   have E:zoi xs ys k k=addT xs ys:=zni (by rw [HL.out,HM.out];omega)
   have HE2:=dq E
   have HL2:Hid ((addT xs ys).length=k):=dq (by rw [zbR,HL.out,HM.out];omega)
   clear E
   go_wp2
   go_ret2
   rw [H.out.1,H.out.2]
   refine ⟨some ⟨w.heap.size,0,none⟩,k,by rw [HL2.out];rfl,?_,fun g e=>?_,bel⟩
   ·rw [←HE2.out];exact HB.out
   ·injection e with e;injection e with e;omega
theorem zrq (a b:Option Addr) (c d:Nat) (xs ys:List Int) (w:World) (R:Bag w a c xs) (S:Bag w b d ys) :
  Calls Tryz.prog 55 #[.slice a xs.length c,.slice b ys.length d] w (zdA (zbp xs ys) (zaz xs ys) w):=by
 cases hx:zaa xs with
 | false=>exact zph a b c d xs ys w R hx
 | true=>
  cases hy:zaa ys with
  | false=>exact zpi a b c d xs ys w R S hx hy
  | true=>
   by_cases h:xs.length<ys.length
   ·exact zro a b c d xs ys w R S hx hy h
   ·exact zrp a b c d xs ys w R S hx hy (by omega)
end Go.Proofs.YtmnkjekjknhhjaaGreatDoor
