import Derived.Test.YtmnkjekjknhhjaaGreatDoorUo
import Derived.WalkSmall
import Derived.Test.YtmnkjekjknhhjaaGreatDoorXb
import Derived.Test.YtmnkjekjknhhjaaGreatDoorG
import Derived.Test.YtmnkjekjknhhjaaGreatDoorXe
import Derived.Test.YtmnkjekjknhhjaaGreatDoorNd
import Derived.Test.YtmnkjekjknhhjaaGreatDoorI
namespace Go.Proofs.YtmnkjekjknhhjaaGreatDoor
open Go.ChangeShapes Go.WideShapes Go.ChangeAt Go.RowKit
def zuz (w:World) (e:Ending) (w':World):Prop:=∃ xs,Small 39 xs∧xs.length≤4∧zc4 xs w e w'
theorem zrT {vs:List Int} (h:Four vs):(normL vs).length≤4:=by
 have hs:=h.small
 refine znQ hs.right (fun t ht=>?_)
 have hr:zaa (trimL vs)=true:=zcx (by rw [zbo];have:=zfo vs;have:=h.1;omega) (fun j _=>by rw [zcF];have:=h.2 j;omega) zf0
 rw [zeQ hr,zcF,zas (by rw [h.1];exact ht)]
set_option maxHeartbeats 2000000 in
theorem zqk (a:Option Addr) (len cap:Nat) (zs:List Int) (w:World) (h:Came w a len cap zs) :
  Calls Tryz.prog 13 #[.slice a len cap] w (zuz w):=by
 have HC:=dq h
 clear h
 go_enter Tryz.func13,Tryz.ntmps13
 go_wp2_with (at_make;refine zar _ rfl _ _ rfl _ _ 4 rfl rfl rfl rfl (by omega) ?_)
 intro w1 r1 b1
 have HR1:=dq r1
 clear r1
 go_wp2_with (fail)
 go_loopw [9] (fun i wr=>∃ (k:Nat) (vs:List Int),k≤4∧i=.int .i64 k∧Hid (Four vs)∧Hid (Bag wr (some ⟨w.heap.size,0,none⟩) 4 vs)∧Below w.heap.size w wr) (fun i _=>4-(intOf i).toNat)
 case atStart=>exact ⟨0,_,Nat.zero_le _,rfl,dq zpb,HR1,b1⟩
 case round=>
  clear HR1 b1
  obtain ⟨k,vs,hk,rfl,HF,HB,bel⟩:=hrel
  by_cases hlt:k<4
  ·have A:=zuh a len cap zs k wr (HC.out.below bel) (by omega)
   obtain ⟨g,e,hs⟩:=HB.out.at (k:=k) (by rw [HF.out.1];omega)
   injection e with e;injection e with e
   have hg:w.heap.size=g:=e
   subst hg
   clear e
   generalize vs.getD k 0=z0 at hs
   have hf:=HB.out.frozen k
   go_wp2_with (fail)
   refine A.mono ?_
   rintro e w' ⟨n,n0,n1,rfl,rfl⟩
   clear A
   go_wp2_with (fail)
   refine (zi3 n 4 _ (by omega) (by omega) n0 n1).mono ?_
   rintro e w' ⟨r,p0,p1,rfl,rfl⟩
   have HP:=dq (HB.out.set (j:=k) (by rw [HF.out.1];omega) r)
   have HF1:=dq (HF.out.set k p0 (z:=r) (by omega))
   have bel1:Below w.heap.size w (wr.setCell ⟨w.heap.size,k,none⟩ (.int .i64 r)):=bel.setCell (Nat.le_refl _) _
   by_cases h10:n.tmod 11=10
   ·go_wp2_with (fail)
    refine (zi3 n 40 _ (by omega) (by omega) n0 n1).mono ?_
    rintro e w' ⟨r2,q0,q1,rfl,rfl⟩
    have HP2:=dq (HP.out.set (j:=k) (by rw [HF1.out.1];omega) r2)
    have HF2:=dq (HF1.out.set k q0 (z:=r2) (by omega))
    have bel2:=bel1.setCell (p:=⟨w.heap.size,k,none⟩) (Nat.le_refl _) (.int .i64 r2)
    have hf1:(wr.setCell ⟨w.heap.size,k,none⟩ (.int .i64 r)).frozen? ⟨w.heap.size,k,none⟩=false:=HP.out.frozen k
    go_wp2
    go_roundw
    case rel=>exact ⟨k+1,_,by omega,by go_num,HF2,HP2,bel2⟩
    case measure=>simp [intOf];omega
   ·go_wp2
    go_roundw
    case rel=>exact ⟨k+1,_,by omega,by go_num,HF1,HP,bel1⟩
    case measure=>simp [intOf];omega
  ·have N:=zkZ _ 4 vs wr HB.out (by rw [HF.out.1];omega)
   rw [HF.out.1] at N
   have HS:=dq (And.intro HF.out.small (zrT HF.out))
   generalize normL vs=ys at *
   go_wp2_with (fail)
   refine N.mono ?_
   rintro e w2 ⟨a2,c2,rfl,r2,f2,b2⟩
   go_wp2
   go_ret
   exact ⟨ys,HS.out.1,HS.out.2,a2,c2,rfl,r2,fun g e=>Nat.le_trans bel.size (f2 g e),bel.trans (b2.mono bel.size)⟩
end Go.Proofs.YtmnkjekjknhhjaaGreatDoor
namespace Go.Proofs.YtmnkjekjknhhjaaGreatDoor
open Go.ChangeShapes Go.WideShapes Go.ChangeAt Go.RowKit
end Go.Proofs.YtmnkjekjknhhjaaGreatDoor
namespace Go.Proofs.YtmnkjekjknhhjaaGreatDoor
open Go.ChangeShapes Go.WideShapes Go.ChangeAt Go.RowKit
set_option maxRecDepth 100000
end Go.Proofs.YtmnkjekjknhhjaaGreatDoor
namespace Go.Proofs.YtmnkjekjknhhjaaGreatDoor
open Go.ChangeShapes Go.WideShapes Go.ChangeAt Go.RowKit
set_option maxRecDepth 100000 in
set_option maxHeartbeats 2000000 in
theorem zmc (mp ba:Option Addr) (bc:Nat) (b:List Lin) (w:World) (R:Lins w ba bc b) (hr:zam b=true) :
  Calls Tryz.prog 18 #[.pointer mp,.slice none 0 0,.slice ba b.length bc] w (fun e w'=>e=.returned (.tuple #[.bool true,.slice none 0 0,.int .i64 0])∧Below w.heap.size w w'):=by
 have hle:=R.le
 have Z0:=zfJ none 0 [] w (Lins.nil w)
 rw [show zam []=true from rfl] at Z0
 have Z1:=fun W (h:Below w.heap.size w W)=>zfJ ba bc b W (R.below h)
 rw [hr] at Z1
 generalize b.length=n at hle Z1 ⊢
 have HZ0:=dq Z0
 have HZ1:=dq Z1
 clear Z0 Z1 R hr
 go_enter Tryz.func18,Tryz.ntmps18
 go_wp2_with (fail)
 refine HZ0.out.mono ?_
 rintro e w1 ⟨rfl,b1⟩
 have HB1:=dq b1
 clear b1 HZ0
 go_wp2_with (fail)
 refine (HZ1.out w1 HB1.out).mono ?_
 rintro e w2 ⟨rfl,b2⟩
 have HB2:=dq (HB1.out.trans (b2.mono HB1.out.size))
 clear b2 HZ1 HB1
 go_wp2
 go_loopw [21] (fun i wr=>i=.int .i64 0∧w2=wr) (fun _ _=>0)
 case atStart=>exact ⟨rfl,rfl⟩
 case round=>
  obtain ⟨rfl,rfl⟩:=hrel
  go_wp2
  exact bodyPost_ret (v:=.tuple #[.bool true,.slice none 0 0,.int .i64 0]) (by simp [results,Tryz.results18,go_sem]) rfl ⟨rfl,HB2.out⟩
theorem zoX:zam zmv=true:=zan.2 zru
set_option maxRecDepth 100000 in
set_option maxHeartbeats 2000000 in
theorem zt3 (w:World):Calls Tryz.prog 24 #[] w (fun e w'=>e=.returned (.bool true)∧Below w.heap.size w w'):=by
 go_enter Tryz.func24,Tryz.ntmps24
 go_wp2_with (fail)
 refine (zsU w).mono ?_
 rintro e w1 ⟨a,c,rfl,A⟩
 have HB1:=dq A.bel
 have hL:Lins w1 a c zmv:=⟨_,rfl,A.row⟩
 have hle:=hL.le
 have Z:=zmc none a c zmv w1 hL zoX
 rw [show zmv.length=1 from rfl] at Z hle
 have HZ:=dq Z
 clear Z A hL
 go_wp2_with (fail)
 refine HZ.out.mono ?_
 rintro e w2 ⟨rfl,b2⟩
 have HB2:=dq (HB1.out.trans (b2.mono HB1.out.size))
 clear b2 HZ HB1
 go_wp2
 go_ret
 exact ⟨rfl,HB2.out⟩
end Go.Proofs.YtmnkjekjknhhjaaGreatDoor
