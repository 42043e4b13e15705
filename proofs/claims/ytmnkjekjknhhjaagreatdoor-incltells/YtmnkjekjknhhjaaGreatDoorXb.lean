import Derived.Test.YtmnkjekjknhhjaaGreatDoorVg
import Derived.Test.YtmnkjekjknhhjaaGreatDoorTm
import Derived.Test.YtmnkjekjknhhjaaGreatDoorWa
import Derived.Test.YtmnkjekjknhhjaaGreatDoorTq
import Derived.Lib.ItoaNum
import Derived.Lib.ItoaLen
import Derived.Lib.ItoaMem
import Derived.Test.YtmnkjekjknhhjaaGreatDoorShB
import Derived.Lib.AppendIntMem
import Derived.Lib.UnsafeStr
import Derived.Laws.AppendOwn
import Derived.Lib.OwnKind
namespace Go.Proofs.YtmnkjekjknhhjaaGreatDoor
open Go.ChangeShapes Go.WideShapes Go.ChangeAt Go.RowKit
theorem zmQ {s:List Lin} (hs:Thin s) {l:List It} (hr:zcy l) (ho:∀ x∈l,ItOk s x):zaq s l=true:=by
 unfold zaq
 rw [Bool.and_eq_true,Bool.and_eq_true]
 refine ⟨⟨zan.2 hs.rise,?_⟩,zdS.2 hr⟩
 rw [List.all_eq_true]
 intro x hx
 rw [Bool.and_eq_true,decide_eq_true_eq,decide_eq_true_eq]
 exact ⟨(ho x hx).lo,(ho x hx).hi⟩
def zgt (s:List Lin) (l:List It):Prop:=zcy l∧∀ x∈l,ItOk s x
theorem zdW {s:List Lin} (hs:Thin s):zgt s (startL s):=by
 have h:=zmO hs
 unfold zaq at h
 rw [Bool.and_eq_true] at h
 refine ⟨zdS.1 h.2,?_⟩
 rw [zdU hs]
 exact zir hs (Nat.le_refl s.length)
theorem ze8 {s:List Lin} (hs:Thin s) {l:List It} (h:zgt s l) (letter:Int) {M:Mr} (hM:M=none):∃ y,nextM M s l letter=(y,0,M)∧zgt s y∧y=(itGo s letter l M []).1:=by
 have e:=zlJ hs letter l M [] hM h.2
 have k:=zqi hs letter l M [] h.2 zcO (fun z hz=>by cases hz)
 refine ⟨(itGo s letter l M []).1,?_,k,rfl⟩
 unfold nextM
 rw [zmQ hs h.1 h.2,if_pos rfl]
 generalize itGo s letter l M []=r at e
 obtain ⟨r1,r2⟩:=r
 have e:r2=(0,M):=e
 rw [e]
end Go.Proofs.YtmnkjekjknhhjaaGreatDoor
namespace Go.Proofs.YtmnkjekjknhhjaaGreatDoor
open Go.ChangeShapes Go.WideShapes Go.ChangeAt Go.RowKit
def zav (s:List Lin) (w:List Int):Nat→Nat→List It→Mr→List It×Int×Mr
 | 0,_,l,M=>(l,0,M)
 | k+1,d,l,M=>
  if (nextM M s l (letterN w (d:Int))).2.1=0 then zav s w k (d+1) (nextM M s l (letterN w (d:Int))).1 (nextM M s l (letterN w (d:Int))).2.2
  else ([],(nextM M s l (letterN w (d:Int))).2)
structure HasRead (s:List Lin) (w:List Int) (d:Nat) (x:It):Prop where
 ok:ItOk s x
 read:∃ ns:List Nat,ns.length=(zab s x.j.toNat).ps.length∧∀ t,(zab s x.j.toNat).base.getD t 0+zkJ (zab s x.j.toNat).ps ns t=w.getD t 0 % 2 ^ d+2 ^ d*x.c.getD t 0
def zfS (v:Nat):List Nat→Nat→List Nat
 | [],_=>[]
 | n::q,m=>(n+v*(m % 2))::zfS v q (m/2)
theorem ziz (v:Nat):∀ (ns:List Nat) (m:Nat),(zfS v ns m).length=ns.length
 | [],_=>rfl
 | n::q,m=>by rw [zfS,List.length_cons,ziz v q,List.length_cons]
theorem znZ (v:Nat) (t:Nat):∀ (ps:List (List Int)) (ns:List Nat) (m:Nat),ns.length=ps.length→zkJ ps (zfS v ns m) t=zkJ ps ns t+(v:Int)*zcz ps m t
 | [],[],_,_=>by show (0:Int)=0+(v:Int)*0;omega
 | [],_::_,_,h=>by simp at h
 | _::_,[],_,h=>by simp at h
 | p::r,n::q,m,h=>by
  have ih:=znZ v t r q (m/2) (by simpa using h)
  rw [zfS]
  unfold zkJ zcz
  rw [ih,Int.mul_add]
  rcases (show m % 2=1∨m % 2=0 by omega) with hm | hm
  ·rw [hm,if_pos rfl,Nat.mul_one,Int.natCast_add,Int.add_mul]
   omega
  ·rw [hm,if_neg (by omega),Nat.mul_zero,Nat.add_zero,Int.mul_zero]
   omega
theorem zqD (a:Int) (d:Nat):a % 2 ^ (d+1)=a % 2 ^ d+2 ^ d*(a/2 ^ d % 2):=by
 have hp:(0:Int)≤2 ^ d:=Int.pow_nonneg (by omega)
 rw [Int.pow_succ,Int.emod_def,Int.emod_def a (2 ^ d),←Int.ediv_ediv_of_nonneg hp]
 generalize a/2 ^ d=q
 generalize (2:Int) ^ d=P
 have e:P*q=P*2*(q/2)+P*(q % 2):=by
  rw [Int.mul_assoc,←Int.mul_add]
  congr 1
  omega
 omega
theorem zoN {s:List Lin} (hs:Thin s) (w:List Int):∀ x∈startL s,HasRead s w 0 x:=by
 intro x hx
 rw [zdU hs] at hx
 have ok:=zir hs (Nat.le_refl s.length) x hx
 obtain ⟨k,_,rfl⟩:=List.mem_map.1 hx
 refine ⟨ok,List.replicate (zab s k).ps.length 0,?_,fun t=>?_⟩
 ·simp
 ·have hz:∀ ps:List (List Int),zkJ ps (List.replicate ps.length 0) t=0:=by
   intro ps
   induction ps with
   | nil=>rfl
   | cons p r ih=>
    show ((0:Nat):Int)*p.getD t 0+zkJ r (List.replicate r.length 0) t=0
    rw [ih]
    simp
  show (zab s ((k:Int)).toNat).base.getD t 0+zkJ (zab s ((k:Int)).toNat).ps (List.replicate (zab s k).ps.length 0) t=_
  rw [Int.toNat_natCast,hz,Int.pow_zero,Int.emod_one]
  show (zab s k).base.getD t 0+0=0+1*(zab s k).base.getD t 0
  omega
theorem zqE {s:List Lin} (hs:Thin s) {w:List Int} (hw:zaa w=true) {d:Nat} (hd:d≤62) {x:It} (h:HasRead s w d x) {m:Nat} {c:List Int} (hc:chosenL x.c (zab s x.j.toNat).ps m=some c) (ho:zao c=letterN w (d:Int)):HasRead s w (d+1) ⟨x.j,halfL c⟩:=by
 obtain ⟨c2,e2,ok⟩:=zip hs h.ok m
 rw [hc] at e2
 injection e2 with e2
 subst e2
 obtain ⟨ns,hl,hr⟩:=h.read
 refine ⟨ok,zfS (2 ^ d) ns m,by rw [ziz];exact hl,fun t=>?_⟩
 have hS:=hs.each _ (zfR h.ok)
 have hf:=hS.trim.few
 have h8:(45:Int)*((zab s x.j.toNat).ps.length:Nat)≤360:=by omega
 obtain ⟨c3,e3,hc3⟩:=zb8 (K:=45) (by omega) (zab s x.j.toNat).ps 45 x.c m h.ok.small (by omega) hS.pers (by omega)
 rw [hc] at e3
 injection e3 with e3
 subst e3
 have hh:=zqb hc3 t
 have hat:=zcQ _ _ _ _ hc t
 have h1:=zdJ c t
 have h2:=zlL hw hd t
 have h3:packN c=letterN w (d:Int):=ho
 rw [h3,h2] at h1
 have hmm:=znZ (2 ^ d) t _ _ m hl
 have e4:((2 ^ d:Nat):Int)=(2:Int) ^ d:=by simp
 rw [e4] at hmm
 have h5:=hr t
 show (zab s x.j.toNat).base.getD t 0+zkJ (zab s x.j.toNat).ps (zfS (2 ^ d) ns m) t=w.getD t 0 % 2 ^ (d+1)+2 ^ (d+1)*(halfL c).getD t 0
 rw [hmm,hh,zqD,Int.pow_succ,←Int.add_assoc,h5,h1]
 have e5:c.getD t 0=2*(c.getD t 0/2)+c.getD t 0 % 2:=by omega
 have e6:(2:Int) ^ d*x.c.getD t 0+2 ^ d*zcz (zab s x.j.toNat).ps m t=2 ^ d*c.getD t 0:=by rw [←Int.mul_add,←hat]
 have e7:(2:Int) ^ d*c.getD t 0=2 ^ d*(c.getD t 0 % 2)+2 ^ d*2*(c.getD t 0/2):=by
  rw [Int.mul_assoc,←Int.mul_add]
  congr 1
  omega
 omega
theorem zl1 {s:List Lin} (letter:Int):∀ (l:List It) (M N:Mr) (O:List It),N=none→(itGo s letter l M O).2.1=0→(itGo s letter l N O).1=(itGo s letter l M O).1
 | [],M,N,O,_,_=>rfl
 | x::r,M,N,O,hN,h=>by
  by_cases h20:20<(zab s x.j.toNat).ps.length
  ·rw [zkE h20] at h
   exact absurd h (by show ¬(3:Int)=0;decide)
  ·cases hv:(spendM M ((2 ^ (zab s x.j.toNat).ps.length:Nat):Int)).1 with
   | false=>
    rw [zlG h20 rfl hv] at h
    exact absurd h (by show ¬(7:Int)=0;decide)
   | true=>
    cases hc:zcP x (zab s x.j.toNat).ps letter (2 ^ (zab s x.j.toNat).ps.length) 0 O with
    | none=>
     rw [znP h20 rfl hv hc] at h
     exact absurd h (by show ¬(3:Int)=0;decide)
    | some O'=>
     rw [zin h20 rfl hv hc] at h ⊢
     rw [zin (p:=(true,N)) h20 (ziq hN _) rfl hc]
     exact zl1 letter r _ N O' hN h
theorem zgT {s:List Lin} (letter:Int) (l:List It) (M N:Mr) (hN:N=none) (h:(nextM M s l letter).2.1=0):(nextM N s l letter).1=(nextM M s l letter).1:=by
 unfold nextM at h ⊢
 split at h
 ·next hr=>
  rw [if_pos hr,if_pos hr]
  exact zl1 letter l M N [] hN h
 ·exact absurd h (by show ¬(1:Int)=0;decide)
theorem zdX (s:List Lin) (w:List Int) (d:Nat) (l:List It) (M:Mr):zav s w 0 d l M=(l,0,M):=rfl
theorem zbW {s:List Lin} {w:List Int} {k d:Nat} {l:List It} {M:Mr} (h:(nextM M s l (letterN w (d:Int))).2.1=0):zav s w (k+1) d l M=zav s w k (d+1) (nextM M s l (letterN w (d:Int))).1 (nextM M s l (letterN w (d:Int))).2.2:=by
 rw [zav,if_pos h]
theorem ziA {s:List Lin} {w:List Int} {k d:Nat} {l:List It} {M:Mr} (h:¬(nextM M s l (letterN w (d:Int))).2.1=0):zav s w (k+1) d l M=([],(nextM M s l (letterN w (d:Int))).2):=by
 rw [zav,if_neg h]
theorem ziB {s:List Lin} (hs:Thin s) (w:List Int):∀ (k d:Nat) (l:List It) (N:Mr),N=none→zgt s l→(zav s w k d l N).2=(0,N)∧zgt s (zav s w k d l N).1
 | 0,d,l,N,_,h=>⟨rfl,h⟩
 | k+1,d,l,N,hN,h=>by
  obtain ⟨y,hy,hsy,_⟩:=ze8 hs h (letterN w (d:Int)) hN
  rw [zbW (by rw [hy]),hy]
  exact ziB hs w k (d+1) y N hN hsy
end Go.Proofs.YtmnkjekjknhhjaaGreatDoor
namespace Go.Proofs.YtmnkjekjknhhjaaGreatDoor
open Go.ChangeShapes Go.WideShapes Go.ChangeAt Go.RowKit
structure Pr where
 c:List Int
 l:List It
 w:List Int
 n:Nat
deriving DecidableEq
def zcv (odd:Int) (n:Nat):Nat→Nat→List Int→List Int
 | 0,_,w=>w
 | k+1,t,w=>zcv odd n k (t+1) (if odd/2 ^ t % 2=1 then zbp w (zc5 (t:Int) (2 ^ n)) else w)
def zaf (w:List Int) (odd:Int) (n:Nat):List Int:=zcv odd n 12 0 w
def zkP (Q:List Pr) (c:List Int) (l:List It):Bool:=Q.any (fun z=>decide (z.c=c) && decide (z.l=l))
def zal (x:Lin) (b:List Lin) (q:Pr):Nat→Nat→List Pr→Mr→List Pr×Int×Mr
 | 0,_,Q,M=>(Q,0,M)
 | k+1,m,Q,M=>match chosenL q.c x.ps m with
  | none=>(Q,3,M)
  | some c=>
   if (nextM M b q.l (zao c)).2.1=0 then
    if zkP Q (halfL c) (nextM M b q.l (zao c)).1=true then zal x b q k (m+1) Q (nextM M b q.l (zao c)).2.2
    else if (spendM (nextM M b q.l (zao c)).2.2 1).1=true then zal x b q k (m+1) (Q++[⟨halfL c,(nextM M b q.l (zao c)).1,zaf q.w (zao c) q.n,q.n+1⟩]) (spendM (nextM M b q.l (zao c)).2.2 1).2
    else (Q,7,(spendM (nextM M b q.l (zao c)).2.2 1).2)
   else (Q,(nextM M b q.l (zao c)).2)
def pr0:Pr:=⟨[],[],[],0⟩
def prAt (Q:List Pr) (k:Nat):Pr:=Q.getD k pr0
theorem zkQ {Q:List Pr} {k:Nat} (h:k<Q.length):prAt Q k=Q[k]:=by simp [prAt,List.getD,h]
structure Sr where
 ok:Bool
 w:List Int
 e:Int
 m:Mr
 q:List Pr
def zag (x:Lin) (b:List Lin):Nat→Nat→List Pr→Mr→Option Sr
 | 0,_,_,_=>none
 | f+1,k,Q,M=>
  if k<Q.length then
   if (prAt Q k).c=[]∧finalL (prAt Q k).l=false then some ⟨false,(prAt Q k).w,0,M,Q⟩
   else if 20<x.ps.length∨60≤(prAt Q k).n then some ⟨false,[],3,M,Q⟩
   else if (zal x b (prAt Q k) (2 ^ x.ps.length) 0 Q M).2.1=0 then zag x b f (k+1) (zal x b (prAt Q k) (2 ^ x.ps.length) 0 Q M).1 (zal x b (prAt Q k) (2 ^ x.ps.length) 0 Q M).2.2
   else some ⟨false,[],(zal x b (prAt Q k) (2 ^ x.ps.length) 0 Q M).2.1,(zal x b (prAt Q k) (2 ^ x.ps.length) 0 Q M).2.2,(zal x b (prAt Q k) (2 ^ x.ps.length) 0 Q M).1⟩
  else some ⟨true,[],0,M,Q⟩
def first (x:Lin) (b:List Lin):Pr:=⟨x.base,startL b,[],0⟩
def zbX (f:Nat) (x:Lin) (b:List Lin) (M:Mr):Option Sr:=
 if (spendM M 1).1=true then zag x b f 0 [first x b] (spendM M 1).2 else some ⟨false,[],7,(spendM M 1).2,[first x b]⟩
def zaM (f:Nat) (b:List Lin):List Lin→Mr→Option (Bool×List Int×Int×Mr)
 | [],M=>some (true,[],0,M)
 | x::r,M=>match zbX f x b M with
  | none=>none
  | some s=>if s.e=0∧s.ok=true then zaM f b r s.m else some (false,s.w,s.e,s.m)
section
variable {x:Lin} {b:List Lin} {q:Pr} {k m:Nat} {Q:List Pr} {M:Mr}
theorem zcf (h:chosenL q.c x.ps m=none):zal x b q (k+1) m Q M=(Q,3,M):=by rw [zal,h]
theorem zcA {c:List Int} (h:chosenL q.c x.ps m=some c) (h1:¬(nextM M b q.l (zao c)).2.1=0):zal x b q (k+1) m Q M=(Q,(nextM M b q.l (zao c)).2):=by
 rw [zal,h];dsimp only;rw [if_neg h1]
theorem zdt {c:List Int} (h:chosenL q.c x.ps m=some c) (h1:(nextM M b q.l (zao c)).2.1=0) (h2:zkP Q (halfL c) (nextM M b q.l (zao c)).1=true):zal x b q (k+1) m Q M=zal x b q k (m+1) Q (nextM M b q.l (zao c)).2.2:=by
 rw [zal,h];dsimp only;rw [if_pos h1,if_pos h2]
theorem zbB {c:List Int} (h:chosenL q.c x.ps m=some c) (h1:(nextM M b q.l (zao c)).2.1=0) (h2:¬zkP Q (halfL c) (nextM M b q.l (zao c)).1=true) (h3:¬(spendM (nextM M b q.l (zao c)).2.2 1).1=true):zal x b q (k+1) m Q M=(Q,7,(spendM (nextM M b q.l (zao c)).2.2 1).2):=by
 rw [zal,h];dsimp only;rw [if_pos h1,if_neg h2,if_neg h3]
theorem zdu {c:List Int} (h:chosenL q.c x.ps m=some c) (h1:(nextM M b q.l (zao c)).2.1=0) (h2:¬zkP Q (halfL c) (nextM M b q.l (zao c)).1=true) (h3:(spendM (nextM M b q.l (zao c)).2.2 1).1=true) :
  zal x b q (k+1) m Q M=zal x b q k (m+1) (Q++[⟨halfL c,(nextM M b q.l (zao c)).1,zaf q.w (zao c) q.n,q.n+1⟩]) (spendM (nextM M b q.l (zao c)).2.2 1).2:=by
 rw [zal,h];dsimp only;rw [if_pos h1,if_neg h2,if_pos h3]
end
theorem zeI (x:Lin) (b:List Lin) (q:Pr):∀ (k m:Nat) (Q:List Pr) (M:Mr),∃ R,(zal x b q k m Q M).1=Q++R
 | 0,m,Q,M=>⟨[],by simp [zal]⟩
 | k+1,m,Q,M=>by
  cases h:chosenL q.c x.ps m with
  | none=>exact ⟨[],by rw [zcf h];simp⟩
  | some c=>
   by_cases h1:(nextM M b q.l (zao c)).2.1=0
   ·by_cases h2:zkP Q (halfL c) (nextM M b q.l (zao c)).1=true
    ·rw [zdt h h1 h2]
     exact zeI x b q k (m+1) Q _
    ·by_cases h3:(spendM (nextM M b q.l (zao c)).2.2 1).1=true
     ·rw [zdu h h1 h2 h3]
      obtain ⟨R,e⟩:=zeI x b q k (m+1) (Q++[⟨halfL c,(nextM M b q.l (zao c)).1,zaf q.w (zao c) q.n,q.n+1⟩]) (spendM (nextM M b q.l (zao c)).2.2 1).2
      exact ⟨_::R,by rw [e,List.append_assoc];rfl⟩
     ·exact ⟨[],by rw [zbB h h1 h2 h3];simp⟩
   ·exact ⟨[],by rw [zcA h h1];simp⟩
end Go.Proofs.YtmnkjekjknhhjaaGreatDoor
namespace Go.Proofs.YtmnkjekjknhhjaaGreatDoor
open Go.ChangeShapes Go.WideShapes Go.ChangeAt Go.RowKit
def Mbs (B S:Int) (M:Mr):Prop:=∃ S' o,M=(some (B,S',o):Mr)∧S≤S'∧S'≤B
theorem Mbs.mono {B S T:Int} {M:Mr} (h:Mbs B S M) (hT:T≤S):Mbs B T M:=by
 obtain ⟨S',o,e,h1,h2⟩:=h
 exact ⟨S',o,e,Int.le_trans hT h1,h2⟩
theorem zeJ {B S n:Int} {M:Mr} (h:Mbs B S M):Mbs B S (spendM M n).2:=by
 obtain ⟨S',o,rfl,h1,h2⟩:=h
 refine ⟨next B S' n o,!zh7 B S' n o,rfl,?_,?_⟩
 ·unfold next
  split<;>omega
 ·unfold next
  split
  ·rename_i hl
   unfold zh7 at hl
   rw [Bool.and_eq_true,decide_eq_true_eq] at hl
   omega
  ·exact h2
theorem zn0 {B S n:Int} {M:Mr} (h:Mbs B S M) (hn:0≤n) (hp:(spendM M n).1=true):Mbs B (S+n) (spendM M n).2:=by
 obtain ⟨S',o,rfl,h1,h2⟩:=h
 have hl:zh7 B S' n o=true:=hp
 refine ⟨next B S' n o,!zh7 B S' n o,rfl,?_,?_⟩
 ·unfold next
  rw [if_pos hl]
  omega
 ·unfold next
  rw [if_pos hl]
  unfold zh7 at hl
  rw [Bool.and_eq_true,decide_eq_true_eq] at hl
  omega
theorem zn1 {B S:Int} (s:List Lin) (letter:Int):∀ (l:List It) (M:Mr) (O:List It),Mbs B S M→Mbs B S (itGo s letter l M O).2.2
 | [],M,O,h=>h
 | x::r,M,O,h=>by
  by_cases h20:20<(zab s x.j.toNat).ps.length
  ·rw [zkE h20];exact h
  ·cases hv:(spendM M ((2 ^ (zab s x.j.toNat).ps.length:Nat):Int)).1 with
   | false=>rw [zlG h20 rfl hv];exact zeJ h
   | true=>
    cases hc:zcP x (zab s x.j.toNat).ps letter (2 ^ (zab s x.j.toNat).ps.length) 0 O with
    | none=>rw [znP h20 rfl hv hc];exact zeJ h
    | some O'=>
     rw [zin h20 rfl hv hc]
     exact zn1 s letter r _ O' (zeJ h)
theorem zn2 {B S:Int} (s:List Lin) (l:List It) (letter:Int) {M:Mr} (h:Mbs B S M):Mbs B S (nextM M s l letter).2.2:=by
 unfold nextM
 split
 ·exact zn1 s letter l M [] h
 ·exact h
theorem zkR {B:Int} (x:Lin) (b:List Lin) (q:Pr):∀ (k m:Nat) (Q:List Pr) (M:Mr) (S:Int),Mbs B S M→
  ∃ n:Nat,(zal x b q k m Q M).1.length=Q.length+n∧Mbs B (S+(n:Int)) (zal x b q k m Q M).2.2
 | 0,m,Q,M,S,h=>⟨0,rfl,h.mono (by omega)⟩
 | k+1,m,Q,M,S,h=>by
  cases hc:chosenL q.c x.ps m with
  | none=>exact ⟨0,by rw [zcf hc];rfl,by rw [zcf hc];exact h.mono (by omega)⟩
  | some c=>
   have hn:=zn2 b q.l (zao c) h
   by_cases h1:(nextM M b q.l (zao c)).2.1=0
   ·by_cases h2:zkP Q (halfL c) (nextM M b q.l (zao c)).1=true
    ·rw [zdt hc h1 h2]
     exact zkR x b q k (m+1) Q _ S hn
    ·by_cases h3:(spendM (nextM M b q.l (zao c)).2.2 1).1=true
     ·rw [zdu hc h1 h2 h3]
      obtain ⟨n,e1,e2⟩:=zkR x b q k (m+1) (Q++[⟨halfL c,(nextM M b q.l (zao c)).1,zaf q.w (zao c) q.n,q.n+1⟩]) _ (S+1) (zn0 hn (by omega) h3)
      exact ⟨n+1,by rw [e1,List.length_append];show Q.length+1+n=_;omega,e2.mono (by omega)⟩
     ·exact ⟨0,by rw [zbB hc h1 h2 h3];rfl,by rw [zbB hc h1 h2 h3];exact (zeJ hn).mono (by omega)⟩
   ·exact ⟨0,by rw [zcA hc h1];rfl,by rw [zcA hc h1];exact hn.mono (by omega)⟩
theorem Mbs.le {B S:Int} {M:Mr} (h:Mbs B S M):S≤B:=by
 obtain ⟨S',o,_,h1,h2⟩:=h
 omega
theorem zgw {B:Int} (x:Lin) (b:List Lin):∀ (f k:Nat) (Q:List Pr) (M:Mr) (S:Int),Mbs B S M→(Q.length:Int)+(B-S)<(f:Int)+(k:Int)→k≤Q.length→
  ∃ r,zag x b f k Q M=some r∧(r.q.length:Int)≤(Q.length:Int)+(B-S)∧Mbs B S r.m
 | 0,k,Q,M,S,h,hf,hk=>by have:=h.le;omega
 | f+1,k,Q,M,S,h,hf,hk=>by
  have hle:=h.le
  unfold zag
  by_cases hlt:k<Q.length
  ·rw [if_pos hlt]
   by_cases h1:(prAt Q k).c=[]∧finalL (prAt Q k).l=false
   ·rw [if_pos h1]
    exact ⟨_,rfl,by show (Q.length:Int)≤_;omega,h⟩
   ·rw [if_neg h1]
    by_cases h2:20<x.ps.length∨60≤(prAt Q k).n
    ·rw [if_pos h2]
     exact ⟨_,rfl,by show (Q.length:Int)≤_;omega,h⟩
    ·rw [if_neg h2]
     obtain ⟨n,e1,e2⟩:=zkR x b (prAt Q k) (2 ^ x.ps.length) 0 Q M S h
     have hle2:=e2.le
     by_cases h3:(zal x b (prAt Q k) (2 ^ x.ps.length) 0 Q M).2.1=0
     ·rw [if_pos h3]
      obtain ⟨r,g1,g2,g3⟩:=zgw x b f (k+1) (zal x b (prAt Q k) (2 ^ x.ps.length) 0 Q M).1 (zal x b (prAt Q k) (2 ^ x.ps.length) 0 Q M).2.2 (S+(n:Int)) e2 (by rw [e1];omega) (by rw [e1];omega)
      rw [e1] at g2
      exact ⟨r,g1,by omega,g3.mono (by omega)⟩
     ·rw [if_neg h3]
      exact ⟨_,rfl,by show ((zal x b (prAt Q k) (2 ^ x.ps.length) 0 Q M).1.length:Int)≤_;rw [e1];omega,e2.mono (by omega)⟩
  ·rw [if_neg hlt]
   exact ⟨_,rfl,by show (Q.length:Int)≤_;omega,h⟩
theorem zeK {B S:Int} (x:Lin) (b:List Lin) {M:Mr} (h:Mbs B S M) {f:Nat} (hf:B-S<(f:Int)):∃ r,zbX f x b M=some r∧(r.q.length:Int)≤B-S+1∧Mbs B S r.m:=by
 have hle:=h.le
 unfold zbX
 by_cases h1:(spendM M 1).1=true
 ·rw [if_pos h1]
  have h2:=zn0 h (by omega) h1
  have hle2:=h2.le
  obtain ⟨r,g1,g2,g3⟩:=zgw x b f 0 [first x b] (spendM M 1).2 (S+1) h2 (by show ((1:Nat):Int)+_<_;omega) (Nat.zero_le _)
  have g2:(r.q.length:Int)≤((1:Nat):Int)+(B-(S+1)):=g2
  exact ⟨r,g1,by omega,g3.mono (by omega)⟩
 ·rw [if_neg h1]
  exact ⟨_,rfl,by show ((1:Nat):Int)≤_;omega,zeJ h⟩
end Go.Proofs.YtmnkjekjknhhjaaGreatDoor
namespace Go.Proofs.YtmnkjekjknhhjaaGreatDoor
open Go.ChangeShapes Go.WideShapes Go.ChangeAt Go.RowKit
theorem ziC {s:List Lin} (hs:Thin s) (w:List Int):∀ (k d:Nat) (l:List It) (N:Mr),N=none→zgt s l→
  (zav s w (k+1) d l N).1=(nextM N s (zav s w k d l N).1 (letterN w ((d+k:Nat):Int))).1
 | 0,d,l,N,hN,h=>by
  obtain ⟨y,hy,_,_⟩:=ze8 hs h (letterN w (d:Int)) hN
  rw [zbW (by rw [hy]),zdX,zdX,Nat.add_zero]
 | k+1,d,l,N,hN,h=>by
  obtain ⟨y,hy,hsy,_⟩:=ze8 hs h (letterN w (d:Int)) hN
  have e1:zav s w (k+1+1) d l N=zav s w (k+1) (d+1) y N:=by rw [zbW (by rw [hy]),hy]
  have e2:zav s w (k+1) d l N=zav s w k (d+1) y N:=by rw [zbW (by rw [hy]),hy]
  rw [e1,e2,ziC hs w k (d+1) y N hN hsy,show d+1+k=d+(k+1) by omega]
theorem zhj (s:List Lin) {w v:List Int}:∀ (k d:Nat) (l:List It) (M:Mr),(∀ i,d≤i→i<d+k→letterN w (i:Int)=letterN v (i:Int))→zav s w k d l M=zav s v k d l M
 | 0,_,_,_,_=>rfl
 | k+1,d,l,M,h=>by
  have h0:=h d (Nat.le_refl _) (by omega)
  rw [zav,zav,h0]
  split
  ·exact zhj s k (d+1) _ _ (fun i h1 h2=>h i (by omega) (by omega))
  ·rfl
def zeL (s:List Lin) (w:List Int) (n:Nat) (N:Mr):List It:=(zav s w n 0 (startL s) N).1
theorem ziD {s:List Lin} (hs:Thin s) (w:List Int) (n:Nat) {N:Mr} (hN:N=none):zgt s (zeL s w n N):=(ziB hs w n 0 (startL s) N hN (zdW hs)).2
theorem zoO {s:List Lin} (hs:Thin s) (w:List Int) (n:Nat) {N:Mr} (hN:N=none):zeL s w (n+1) N=(nextM N s (zeL s w n N) (letterN w (n:Int))).1:=by
 have h:=ziC hs w n 0 (startL s) N hN (zdW hs)
 rw [Nat.zero_add] at h
 exact h
theorem zqF {Q:List Pr} {c:List Int} {l:List It}:zkP Q c l=true↔∃ z∈Q,z.c=c∧z.l=l:=by
 unfold zkP
 rw [List.any_eq_true]
 constructor
 ·rintro ⟨z,hz,h⟩
  rw [Bool.and_eq_true,decide_eq_true_eq,decide_eq_true_eq] at h
  exact ⟨z,hz,h⟩
 ·rintro ⟨z,hz,h⟩
  refine ⟨z,hz,?_⟩
  rw [Bool.and_eq_true,decide_eq_true_eq,decide_eq_true_eq]
  exact h
end Go.Proofs.YtmnkjekjknhhjaaGreatDoor
namespace Go.Proofs.YtmnkjekjknhhjaaGreatDoor
open Go.ChangeShapes Go.WideShapes Go.ChangeAt Go.RowKit
def ztL (w:List Int) (D:Nat):Prop:=(∀ t,w.getD t 0/2 ^ D=0)∧(0<D→∃ t,w.getD t 0/2 ^ (D-1)≠0)
theorem zdv {v:Int} {D E:Nat} (h0:0≤v) (h:v/2 ^ D=0) (hE:D≤E):v/2 ^ E=0:=by
 have e1:((2 ^ D:Nat):Int)=(2:Int) ^ D:=by simp
 have e2:((2 ^ E:Nat):Int)=(2:Int) ^ E:=by simp
 have h1:(2:Nat) ^ D≤2 ^ E:=Nat.pow_le_pow_right (by omega) hE
 have h2:0<(2:Nat) ^ D:=Nat.two_pow_pos D
 have h3:v<2 ^ D:=by
  have h4:=Int.emod_lt_of_pos v (show (0:Int)<2 ^ D by omega)
  have h5:v % 2 ^ D=v:=by rw [Int.emod_def,h];omega
  omega
 exact Int.ediv_eq_zero_of_lt h0 (by omega)
theorem zmR {w:List Int} (hw:zaa w=true) {D E:Nat} (h:ztL w D) (k:ztL w E):D=E:=by
 rcases Nat.lt_trichotomy D E with h1 | h1 | h1
 ·obtain ⟨t,ht⟩:=k.2 (by omega)
  exact absurd (zdv (zae hw t).1 (h.1 t) (by omega)) ht
 ·exact h1
 ·obtain ⟨t,ht⟩:=h.2 (by omega)
  exact absurd (zdv (zae hw t).1 (k.1 t) (by omega)) ht
def zua (M:Mr) (s:List Lin) (w:List Int) (D:Nat):Bool×Int×Mr:=
 if (zav s w D 0 (startL s) M).2.1=0 then (finalL (zav s w D 0 (startL s) M).1,(zav s w D 0 (startL s) M).2) else (false,(zav s w D 0 (startL s) M).2)
theorem zkS {s:List Lin} (hs:Thin s) {l:List It} (h:zgt s l) (letter:Int) (M:Mr) (h0:(nextM M s l letter).2.1=0):zgt s (nextM M s l letter).1:=by
 obtain ⟨N,hN⟩:∃ N:Mr,N=(none:Mr):=⟨_,rfl⟩
 obtain ⟨y,hy,hsy,_⟩:=ze8 hs h letter hN
 have e:=zgT letter l M N hN h0
 rw [hy] at e
 have e:y=(nextM M s l letter).1:=e
 rw [←e]
 exact hsy
end Go.Proofs.YtmnkjekjknhhjaaGreatDoor
namespace Go.Proofs.YtmnkjekjknhhjaaGreatDoor
open Go.ChangeShapes Go.WideShapes Go.ChangeAt Go.RowKit
theorem ztK {t:Nat} {n:Int} (h:ziR (t:Int) n=true) (j:Nat):(zc5 (t:Int) n).getD j 0=if j=t then n else 0:=by
 unfold zc5
 rw [if_pos h,Int.toNat_natCast]
 by_cases hj:j<t+1
 ·rw [zd0 hj]
 ·rw [zfZ (by omega),if_neg (by omega)]
theorem zl2 {n:Nat} (hn:n≤59):(1:Int)≤2 ^ n∧(2:Int) ^ n≤576460752303423488:=by
 have h1:0<(2:Nat) ^ n:=Nat.two_pow_pos n
 have h2:(2:Nat) ^ n≤2 ^ 59:=Nat.pow_le_pow_right (by omega) hn
 have e:(2:Int) ^ n=((2 ^ n:Nat):Int):=by simp
 have e2:(2:Nat) ^ 59=576460752303423488:=by decide
 rw [e]
 omega
theorem ziE (odd:Int) {n:Nat} (hn:n≤59):∀ (k T:Nat) (v:List Int),zaa v=true→(∀ t,T≤t→v.getD t 0<2 ^ n)→T+k≤12→
  zaa (zcv odd n k T v)=true∧∀ t,(zcv odd n k T v).getD t 0=v.getD t 0+if T≤t∧t<T+k then odd/2 ^ t % 2*2 ^ n else 0
 | 0,T,v,hv,_,_=>⟨hv,fun t=>by rw [if_neg (by omega)];show v.getD t 0=_;omega⟩
 | k+1,T,v,hv,hlow,hT=>by
  have hp:=zl2 hn
  unfold zcv
  by_cases hb:odd/2 ^ T % 2=1
  ·rw [if_pos hb]
   have ok:ziR (T:Int) (2 ^ n)=true:=zgG.2 ⟨⟨by omega,by omega⟩,hp.1,by omega⟩
   have hat:=ztK ok
   have A:=zfE hv (zhV ok) (fun j _=>by
    rw [hat]
    have h1:=zae hv j
    split
    ·next e=>
     have:=hlow j (by omega)
     omega
    ·omega)
   rw [A.2]
   obtain ⟨r1,r2⟩:=ziE odd hn k (T+1) (addT v (zc5 (T:Int) (2 ^ n))) (zeT A.1) (fun t ht=>by
    rw [zcG,hat,if_neg (by omega)]
    have:=hlow t (by omega)
    omega) (by omega)
   refine ⟨r1,fun t=>?_⟩
   rw [r2,zcG,hat]
   by_cases e:t=T
   ·subst e
    rw [if_pos rfl,if_neg (by omega),if_pos (by omega),hb]
    omega
   ·rw [if_neg e]
    by_cases h1:T+1≤t∧t<T+1+k
    ·rw [if_pos h1,if_pos (by omega)]
     omega
    ·rw [if_neg h1,if_neg (by omega)]
     omega
  ·rw [if_neg hb]
   obtain ⟨r1,r2⟩:=ziE odd hn k (T+1) v hv (fun t ht=>hlow t (by omega)) (by omega)
   refine ⟨r1,fun t=>?_⟩
   rw [r2]
   have h0:odd/2 ^ T % 2=0:=by omega
   by_cases e:t=T
   ·subst e
    rw [if_neg (by omega),if_pos (by omega),h0]
    omega
   ·by_cases h1:T+1≤t∧t<T+1+k
    ·rw [if_pos h1,if_pos (by omega)]
    ·rw [if_neg h1,if_neg (by omega)]
theorem zl3 {w c:List Int} {n:Nat} (hn:n≤59) (hw:zaa w=true) (hlow:∀ t,w.getD t 0<2 ^ n) (hc:c.length≤12) :
  zaa (zaf w (zao c) n)=true∧∀ t,(zaf w (zao c) n).getD t 0=w.getD t 0+c.getD t 0 % 2*2 ^ n:=by
 obtain ⟨r1,r2⟩:=ziE (zao c) hn 12 0 w hw (fun t _=>hlow t) (by omega)
 refine ⟨r1,fun t=>?_⟩
 have h1:=r2 t
 have h2:=zdJ c t
 show (zcv (zao c) n 12 0 w).getD t 0=_
 rw [h1]
 by_cases ht:t<12
 ·rw [if_pos (by omega)]
  show _+packN c/2 ^ t % 2*2 ^ n=_
  rw [h2]
 ·rw [if_neg (by omega),zas (l:=c) (by omega)]
  simp
structure PrOk (a b:List Lin) (j:Nat) (N:Mr) (q:Pr):Prop where
 right:zaa q.w=true
 low:∀ t,q.w.getD t 0<2 ^ q.n
 read:HasRead a q.w q.n ⟨(j:Int),q.c⟩
 items:q.l=zeL b q.w q.n N
 far:q.n≤60
theorem zjT {a b:List Lin} (ha:Thin a) {j:Nat} (hj:j<a.length) {N:Mr}:PrOk a b j N (first (zab a j) b):=by
 refine ⟨za7,fun t=>by show ([]:List Int).getD t 0<2 ^ 0;simp,?_,rfl,Nat.zero_le _⟩
 refine zoN ha [] _ ?_
 rw [zdU ha]
 exact List.mem_map.2 ⟨j,List.mem_range.2 hj,rfl⟩
theorem zl4 {a b:List Lin} (ha:Thin a) (hb:Thin b) {j:Nat} {N:Mr} (hN:N=none) {q:Pr} (h:PrOk a b j N q) (hn:q.n≤59) {m:Nat} {c:List Int} (hc:chosenL q.c (zab a j).ps m=some c) :
  PrOk a b j N ⟨halfL c,(nextM N b q.l (zao c)).1,zaf q.w (zao c) q.n,q.n+1⟩:=by
 have ej:((⟨(j:Int),q.c⟩:It).j).toNat=j:=Int.toNat_natCast j
 have hS:=ha.each _ (zfR h.read.ok)
 rw [ej] at hS
 have hf:=hS.trim.few
 have h8:(45:Int)*((zab a j).ps.length:Nat)≤360:=by omega
 obtain ⟨c3,e3,hc3⟩:=zb8 (K:=45) (by omega) (zab a j).ps 45 q.c m h.read.ok.small (by omega) hS.pers (by omega)
 rw [hc] at e3
 injection e3 with e3
 subst e3
 obtain ⟨w1,w2⟩:=zl3 hn h.right h.low hc3.len
 have hlowq:∀ t,(zaf q.w (zao c) q.n).getD t 0 % 2 ^ q.n=q.w.getD t 0∧(zaf q.w (zao c) q.n).getD t 0/2 ^ q.n=c.getD t 0 % 2:=fun t=>by
  have h0:=(zae h.right t).1
  have h1:=h.low t
  have hp:=(zl2 hn).1
  rw [w2]
  constructor
  ·rw [Int.add_mul_emod_self_right,Int.emod_eq_of_lt h0 h1]
  ·rw [Int.add_mul_ediv_right _ _ (by omega),Int.ediv_eq_zero_of_lt h0 h1,Int.zero_add]
 have hodd:zao c=letterN (zaf q.w (zao c) q.n) (q.n:Int):=zoI w1 (by omega) (fun t=>by
  rw [(hlowq t).2]
  omega)
 have hrd:HasRead a (zaf q.w (zao c) q.n) q.n ⟨(j:Int),q.c⟩:=by
  obtain ⟨ok,ns,hl,hr⟩:=h.read
  refine ⟨ok,ns,hl,fun t=>?_⟩
  have h1:=hr t
  have h2:q.w.getD t 0 % 2 ^ q.n=q.w.getD t 0:=Int.emod_eq_of_lt (zae h.right t).1 (h.low t)
  rw [h1,h2,(hlowq t).1]
 have hitems:zeL b (zaf q.w (zao c) q.n) q.n N=zeL b q.w q.n N:=by
  unfold zeL
  rw [zhj b q.n 0 (startL b) N (fun i _ hi=>?_)]
  have hi':i<q.n:=by omega
  unfold letterN
  rw [if_pos ⟨w1,by omega,by omega⟩,if_pos ⟨h.right,by omega,by omega⟩,Int.toNat_natCast]
  refine ze6 (fun t=>?_)
  rw [zey,zey,w2]
  obtain ⟨k,hk⟩:∃ k,q.n=i+1+k:=⟨q.n-(i+1),by omega⟩
  have e1:c.getD t 0 % 2*(2:Int) ^ q.n=(c.getD t 0 % 2*2 ^ k*2)*2 ^ i:=by
   rw [hk,Int.pow_add,Int.pow_succ]
   ac_rfl
  have hpi:(2:Int) ^ i≠0:=by
   have:=(zl2 (show i≤59 by omega)).1
   omega
  rw [e1,Int.add_mul_ediv_right _ _ hpi]
  omega
 have hst:=zqE ha w1 (show q.n≤62 by omega) hrd (m:=m) (c:=c) (by rw [ej];exact hc) hodd
 refine ⟨w1,fun t=>?_,hst,?_,by show q.n+1≤60;omega⟩
 ·show (zaf q.w (zao c) q.n).getD t 0<2 ^ (q.n+1)
  rw [w2,Int.pow_succ]
  have h1:=h.low t
  have hp:=(zl2 hn).1
  rcases (show c.getD t 0 % 2=0∨c.getD t 0 % 2=1 by omega) with h2 | h2
  ·rw [h2];omega
  ·rw [h2];omega
 ·show (nextM N b q.l (zao c)).1=zeL b (zaf q.w (zao c) q.n) (q.n+1) N
  rw [zoO hb _ _ hN,hitems,←h.items,←hodd]
end Go.Proofs.YtmnkjekjknhhjaaGreatDoor
namespace Go.Proofs.YtmnkjekjknhhjaaGreatDoor
open Go.ChangeShapes Go.WideShapes Go.ChangeAt Go.RowKit
def zr9 (c:UInt8):Bool:=decide (48≤c.toNat) && decide (c.toNat≤57)
def zqN (l:List UInt8):Nat:=l.foldl (fun n c=>n*10+(c.toNat-48)) 0
theorem zoR (l:List UInt8) (c:UInt8):zqN (l++[c])=zqN l*10+(c.toNat-48):=by unfold zqN;rw [List.foldl_append];rfl
theorem zn5 (n:Nat):(∀ c∈Lib.decDigits n,zr9 c=true)∧zqN (Lib.decDigits n)=n:=by
 induction n using Nat.strongRecOn with
 | _ n ih=>
  by_cases h:n<10
  ·have e:Lib.decDigits n=[UInt8.ofNat (48+n)]:=by rw [Lib.decDigits,dif_pos h]
   have ht:(UInt8.ofNat (48+n)).toNat=48+n:=by rw [UInt8.toNat_ofNat'];omega
   rw [e]
   refine ⟨fun c hc=>?_,?_⟩
   ·rw [List.mem_singleton] at hc;rw [hc];unfold zr9;rw [ht];simp;omega
   ·unfold zqN;simp only [List.foldl_cons,List.foldl_nil];rw [ht];omega
  ·have e:Lib.decDigits n=Lib.decDigits (n/10)++[UInt8.ofNat (48+n % 10)]:=by rw [Lib.decDigits,dif_neg h]
   have ht:(UInt8.ofNat (48+n % 10)).toNat=48+n % 10:=by rw [UInt8.toNat_ofNat'];omega
   obtain ⟨i1,i2⟩:=ih (n/10) (by omega)
   rw [e]
   refine ⟨fun c hc=>?_,?_⟩
   ·rcases List.mem_append.1 hc with hc | hc
    ·exact i1 c hc
    ·rw [List.mem_singleton] at hc;rw [hc];unfold zr9;rw [ht];simp;omega
   ·rw [zoR,i2,ht];omega
theorem zn6:∀ (a b:List UInt8) (x y:UInt8) (r s:List UInt8),(∀ c∈a,zr9 c=true)→(∀ c∈b,zr9 c=true)→zr9 x=false→zr9 y=false→a++x::r=b++y::s→a=b∧x=y∧r=s
 | [],[],x,y,r,s,_,_,_,_,h=>by
  rw [List.nil_append,List.nil_append] at h
  injection h with h1 h2
  exact ⟨rfl,h1,h2⟩
 | [],d::b,x,y,r,s,_,hb,hx,_,h=>by
  rw [List.nil_append,List.cons_append] at h
  injection h with h1 h2
  have:=hb d (by simp)
  rw [←h1,hx] at this
  cases this
 | c::a,[],x,y,r,s,ha,_,_,hy,h=>by
  rw [List.nil_append,List.cons_append] at h
  injection h with h1 h2
  have:=ha c (by simp)
  rw [h1,hy] at this
  cases this
 | c::a,d::b,x,y,r,s,ha,hb,hx,hy,h=>by
  rw [List.cons_append,List.cons_append] at h
  injection h with h1 h2
  obtain ⟨e1,e2,e3⟩:=zn6 a b x y r s (fun z hz=>ha z (List.mem_cons_of_mem _ hz)) (fun z hz=>hb z (List.mem_cons_of_mem _ hz)) hx hy h2
  exact ⟨by rw [h1,e1],e2,e3⟩
def zi2 (n:Int) (x:UInt8):List UInt8:=Lib.itoa n++[x]
theorem zn7 {n:Int} (h:0≤n):Lib.itoa n=Lib.decDigits n.toNat:=by
 obtain ⟨u,rfl⟩:∃ u:Nat,n=u:=⟨n.toNat,by omega⟩
 rw [Lib.itoa_nonneg,Int.toNat_natCast]
theorem zfc {n m:Int} {x y:UInt8} {r s:List UInt8} (hn:0≤n) (hm:0≤m) (hx:zr9 x=false) (hy:zr9 y=false) (h:zi2 n x++r=zi2 m y++s):n=m∧x=y∧r=s:=by
 unfold zi2 at h
 rw [zn7 hn,zn7 hm,List.append_assoc,List.append_assoc] at h
 obtain ⟨e1,e2,e3⟩:=zn6 _ _ x y r s (zn5 _).1 (zn5 _).1 hx hy h
 have h2:=(zn5 n.toNat).2
 rw [e1,(zn5 m.toNat).2] at h2
 exact ⟨by omega,e2,e3⟩
def wordB (c:List Int):List UInt8:=c.flatMap (fun n=>zi2 n 32)
def zfm (x:It):List UInt8:=zi2 x.j 58++wordB x.c
def zo0 (c:List Int) (l:List It):List UInt8:=wordB c++l.flatMap zfm
def zmW (r:List UInt8):Prop:=r=[]∨∃ n s,0≤n∧r=zi2 n 58++s
theorem zgU:∀ (c d:List Int) (r s:List UInt8),(∀ n∈c,(0:Int)≤n)→(∀ n∈d,(0:Int)≤n)→zmW r→zmW s→wordB c++r=wordB d++s→c=d∧r=s
 | [],[],r,s,_,_,_,_,h=>⟨rfl,by simpa [wordB] using h⟩
 | [],m::d,r,s,_,hd,hr,_,h=>by
  have h:r=zi2 m 32++(wordB d++s):=by simpa [wordB,List.append_assoc] using h
  rcases hr with e | ⟨n,t,hn,e⟩
  ·rw [e] at h;simp [zi2] at h
  ·rw [e] at h
   have:=(zfc hn (hd m (by simp)) (by decide) (by decide) h).2.1
   exact absurd this (by decide)
 | n::c,[],r,s,hc,_,_,hs,h=>by
  have h:zi2 n 32++(wordB c++r)=s:=by simpa [wordB,List.append_assoc] using h
  rcases hs with e | ⟨m,t,hm,e⟩
  ·rw [e] at h;simp [zi2] at h
  ·rw [e] at h
   have:=(zfc (hc n (by simp)) hm (by decide) (by decide) h).2.1
   exact absurd this (by decide)
 | n::c,m::d,r,s,hc,hd,hr,hs,h=>by
  have h:zi2 n 32++(wordB c++r)=zi2 m 32++(wordB d++s):=by simpa [wordB,List.append_assoc] using h
  obtain ⟨e1,_,e3⟩:=zfc (hc n (by simp)) (hd m (by simp)) (by decide) (by decide) h
  obtain ⟨e4,e5⟩:=zgU c d r s (fun z hz=>hc z (List.mem_cons_of_mem _ hz)) (fun z hz=>hd z (List.mem_cons_of_mem _ hz)) hr hs e3
  exact ⟨by rw [e1,e4],e5⟩
theorem zgz {c:List Int} (h:zaa c=true):∀ n∈c,(0:Int)≤n:=fun n hn=>(ziy h n hn).1
theorem zcB {l:List It} (h:zfl l):zmW (l.flatMap zfm):=by
 cases l with
 | nil=>exact .inl rfl
 | cons x r=>exact .inr ⟨x.j,wordB x.c++r.flatMap zfm,(h x (by simp)).2.1,by rw [List.flatMap_cons];unfold zfm;rw [List.append_assoc]⟩
theorem zjV:∀ (l k:List It),zfl l→zfl k→l.flatMap zfm=k.flatMap zfm→l=k
 | [],[],_,_,_=>rfl
 | [],y::k,_,_,h=>by simp [zfm,zi2] at h
 | x::l,[],_,_,h=>by simp [zfm,zi2] at h
 | x::l,y::k,hl,hk,h=>by
  obtain ⟨x1,x2,x3⟩:=hl x (by simp)
  obtain ⟨y1,y2,y3⟩:=hk y (by simp)
  have hl':zfl l:=fun z hz=>hl z (List.mem_cons_of_mem _ hz)
  have hk':zfl k:=fun z hz=>hk z (List.mem_cons_of_mem _ hz)
  rw [List.flatMap_cons,List.flatMap_cons] at h
  have hx:zfm x=zi2 x.j 58++wordB x.c:=rfl
  have hy:zfm y=zi2 y.j 58++wordB y.c:=rfl
  rw [hx,hy,List.append_assoc,List.append_assoc] at h
  obtain ⟨e1,_,h⟩:=zfc x2 y2 (by decide) (by decide) h
  obtain ⟨e2,h⟩:=zgU _ _ _ _ (zgz x1) (zgz y1) (zcB hl') (zcB hk') h
  have ih:=zjV l k hl' hk' h
  obtain ⟨xj,xc⟩:=x
  obtain ⟨yj,yc⟩:=y
  simp only at e1 e2
  rw [e1,e2,ih]
theorem ztU {c d:List Int} {l k:List It} (hc:zaa c=true) (hd:zaa d=true) (hl:zfl l) (hk:zfl k) (h:zo0 c l=zo0 d k):c=d∧l=k:=by
 unfold zo0 at h
 obtain ⟨e1,e2⟩:=zgU _ _ _ _ (zgz hc) (zgz hd) (zcB hl) (zcB hk) h
 exact ⟨e1,zjV l k hl hk e2⟩
theorem zn8 {n:Int} (h0:0≤n) (h1:n≤9223372036854775807) (x:UInt8):(zi2 n x).length≤22:=by
 unfold zi2
 have:=Lib.itoa_length_le n (by omega) h1
 rw [List.length_append,List.length_singleton]
 omega
theorem zgA:∀ {c:List Int},(∀ n∈c,0≤n∧n≤9223372036854775807)→(wordB c).length≤22*c.length
 | [],_=>by simp [wordB]
 | n::c,h=>by
  have h1:=zn8 (h n (by simp)).1 (h n (by simp)).2 32
  have h2:=zgA (c:=c) (fun z hz=>h z (List.mem_cons_of_mem _ hz))
  have e:wordB (n::c)=zi2 n 32++wordB c:=rfl
  rw [e,List.length_append,List.length_cons]
  omega
theorem ziH {c:List Int} (h:zaa c=true):∀ n∈c,0≤n∧n≤9223372036854775807:=fun n hn=>by
 obtain ⟨k,hk,rfl⟩:=List.getElem_of_mem hn
 have:=zae h k
 rw [zaY hk] at this
 omega
theorem zqO {x:It} (h:zah x=true) (h0:0≤x.j) (h1:x.j<65536):(zfm x).length≤286:=by
 have h2:=zn8 h0 (by omega) 58
 have h3:=zgA (ziH (show zaa x.c=true from h))
 have h4:=(zac.1 (show zaa x.c=true from h)).1
 unfold zfm
 rw [List.length_append]
 omega
theorem zn9 {c:List Int} {l:List It} (hc:zaa c=true) (hl:zfl l):(zo0 c l).length≤264+286*l.length:=by
 unfold zo0
 have h3:=zgA (ziH hc)
 have h4:=(zac.1 hc).1
 have h5:∀ k:List It,zfl k→(k.flatMap zfm).length≤286*k.length:=by
  intro k
  induction k with
  | nil=>intro _;simp
  | cons x r ih=>
   intro hk
   obtain ⟨x1,x2,x3⟩:=hk x (by simp)
   have h6:=zqO x1 x2 x3
   have h7:=ih (fun z hz=>hk z (List.mem_cons_of_mem _ hz))
   rw [List.flatMap_cons,List.length_append,List.length_cons]
   omega
 have:=h5 l hl
 rw [List.length_append]
 omega
def orN (w:List Int):Nat:=w.foldl (fun a n=>a ||| n.toNat) 0
theorem zfd:∀ (f x:Nat),x<2 ^ f→x/2 ^ Lib.bitLenAux f x=0∧(0<Lib.bitLenAux f x→x/2 ^ (Lib.bitLenAux f x-1)≠0)
 | 0,x,h=>by
  have:x=0:=by simpa using h
  subst this
  simp [Lib.bitLenAux]
 | f+1,x,h=>by
  unfold Lib.bitLenAux
  by_cases h0:x=0
  ·subst h0;simp
  ·rw [if_neg h0]
   obtain ⟨i1,i2⟩:=zfd f (x/2) (by rw [Nat.pow_succ] at h;omega)
   constructor
   ·rw [Nat.add_comm,Nat.pow_succ',←Nat.div_div_eq_div_mul]
    exact i1
   ·intro _
    rw [Nat.add_sub_cancel_left]
    by_cases h2:Lib.bitLenAux f (x/2)=0
    ·rw [h2,Nat.pow_zero,Nat.div_one];exact h0
    ·have:=i2 (by omega)
     intro h3
     apply this
     rw [Nat.div_div_eq_div_mul,←Nat.pow_succ',show (Lib.bitLenAux f (x/2)-1).succ=Lib.bitLenAux f (x/2) by omega]
     exact h3
theorem zuI (a b k:Nat):(a ||| b)/2 ^ k=(a/2 ^ k) ||| (b/2 ^ k):=by
 rw [←Nat.shiftRight_eq_div_pow,←Nat.shiftRight_eq_div_pow,←Nat.shiftRight_eq_div_pow,Nat.shiftRight_or_distrib]
theorem ztV {a b:Nat}:a ||| b=0↔a=0∧b=0:=by
 constructor
 ·intro h
  have h1:=Nat.left_le_or (n:=a) (m:=b)
  have h2:=Nat.right_le_or (n:=a) (m:=b)
  omega
 ·rintro ⟨rfl,rfl⟩;rfl
theorem zmX (k:Nat):∀ (w:List Int) (a:Nat),w.foldl (fun a n=>a ||| n.toNat) a/2 ^ k=0↔a/2 ^ k=0∧∀ n∈w,n.toNat/2 ^ k=0
 | [],a=>by simp
 | n::w,a=>by
  rw [List.foldl_cons,zmX k w,zuI,ztV]
  constructor
  ·rintro ⟨⟨h1,h2⟩,h3⟩
   refine ⟨h1,fun m hm=>?_⟩
   rcases List.mem_cons.1 hm with rfl | hm
   ·exact h2
   ·exact h3 m hm
  ·rintro ⟨h1,h2⟩
   exact ⟨⟨h1,h2 n (by simp)⟩,fun m hm=>h2 m (List.mem_cons_of_mem _ hm)⟩
theorem ztW {a b:Nat} (ha:a<2 ^ 62) (hb:b<2 ^ 62):a ||| b<2 ^ 62:=Nat.or_lt_two_pow ha hb
theorem zqP:∀ (w:List Int) (a:Nat),a<2 ^ 62→(∀ n∈w,n.toNat<2 ^ 62)→w.foldl (fun a n=>a ||| n.toNat) a<2 ^ 62
 | [],a,ha,_=>ha
 | n::w,a,ha,h=>by
  rw [List.foldl_cons]
  exact zqP w _ (ztW ha (h n (by simp))) (fun m hm=>h m (List.mem_cons_of_mem _ hm))
theorem zhK {w:List Int} (h:zaa w=true):∀ n∈w,0≤n∧n≤1152921504606846976:=fun n hn=>by
 obtain ⟨k,hk,rfl⟩:=List.getElem_of_mem hn
 have:=zae h k
 rw [zaY hk] at this
 exact this
theorem zoa {w:List Int} (h:zaa w=true):orN w<2 ^ 62:=zqP w 0 (by decide) (fun n hn=>by
 have:=zhK h n hn
 have e:(2:Nat) ^ 62=4611686018427387904:=by decide
 omega)
theorem ziI {n:Int} (h:0≤n) (k:Nat):n/2 ^ k=((n.toNat/2 ^ k:Nat):Int):=by
 obtain ⟨u,rfl⟩:∃ u:Nat,n=u:=⟨n.toNat,by omega⟩
 rw [Int.toNat_natCast,Int.natCast_ediv]
 simp
theorem zoS {w:List Int} (h:zaa w=true):ztL w (Lib.bitLen (orN w))∧Lib.bitLen (orN w)≤62:=by
 have h0:=zoa h
 have h1:=zfd 64 (orN w) (by have e:(2:Nat) ^ 62≤2 ^ 64:=Nat.pow_le_pow_right (by omega) (by omega);omega)
 refine ⟨⟨fun t=>?_,fun hd=>?_⟩,Lib.bitLen_le _ 62 (by omega) h0⟩
 ·have h2:=((zmX (Lib.bitLen (orN w)) w 0).1 h1.1).2
  by_cases ht:t<w.length
  ·have h3:=h2 w[t] (List.getElem_mem ht)
   rw [zaY ht,ziI (zhK h _ (List.getElem_mem ht)).1,h3]
   rfl
  ·rw [zas (by omega)]
   simp
 ·have h2:=h1.2 hd
  have h3:¬∀ n∈w,n.toNat/2 ^ (Lib.bitLen (orN w)-1)=0:=fun h3=>h2 ((zmX _ w 0).2 ⟨by simp,h3⟩)
  by_cases h4:∃ t,w.getD t 0/2 ^ (Lib.bitLen (orN w)-1)≠0
  ·exact h4
  ·exfalso
   refine h3 (fun n hn=>?_)
   obtain ⟨t,ht,rfl⟩:=List.getElem_of_mem hn
   have h5:¬w.getD t 0/2 ^ (Lib.bitLen (orN w)-1)≠0:=fun h6=>h4 ⟨t,h6⟩
   rw [zaY ht,ziI (zhK h _ hn).1] at h5
   omega
def zhv (_x:Lin) (b:List Lin) (q:Pr) (c:List Int) (Q:List Pr) (M:Mr):List Pr×Int×Mr:=
 if (nextM M b q.l (zao c)).2.1=0 then
  if zkP Q (halfL c) (nextM M b q.l (zao c)).1=true then (Q,0,(nextM M b q.l (zao c)).2.2)
  else if (spendM (nextM M b q.l (zao c)).2.2 1).1=true then (Q++[⟨halfL c,(nextM M b q.l (zao c)).1,zaf q.w (zao c) q.n,q.n+1⟩],0,(spendM (nextM M b q.l (zao c)).2.2 1).2)
  else (Q,7,(spendM (nextM M b q.l (zao c)).2.2 1).2)
 else (Q,(nextM M b q.l (zao c)).2)
def chGo (x:Lin) (b:List Lin) (q:Pr):Nat→List Int→List Pr→Mr→List Pr×Int×Mr
 | 0,c,Q,M=>zhv x b q c Q M
 | i+1,c,Q,M=>
  if (chGo x b q i c Q M).2.1=0 then
   if zaz c (x.ps.getD i [])=true then chGo x b q i (addT c (x.ps.getD i [])) (chGo x b q i c Q M).1 (chGo x b q i c Q M).2.2
   else ((chGo x b q i c Q M).1,3,(chGo x b q i c Q M).2.2)
  else chGo x b q i c Q M
theorem zob {x:Lin} {b:List Lin} {q:Pr} {m:Nat} {c:List Int} (h:chosenL q.c x.ps m=some c) (Q:List Pr) (M:Mr):zal x b q 1 m Q M=zhv x b q c Q M:=by
 unfold zhv
 by_cases h1:(nextM M b q.l (zao c)).2.1=0
 ·rw [if_pos h1]
  by_cases h2:zkP Q (halfL c) (nextM M b q.l (zao c)).1=true
  ·rw [if_pos h2,zdt h h1 h2];rfl
  ·rw [if_neg h2]
   by_cases h3:(spendM (nextM M b q.l (zao c)).2.2 1).1=true
   ·rw [if_pos h3,zdu h h1 h2 h3];rfl
   ·rw [if_neg h3,zbB h h1 h2 h3]
 ·rw [if_neg h1,zcA h h1]
theorem zkU (x:Lin) (b:List Lin) (q:Pr):∀ (k k2 m:Nat) (Q:List Pr) (M:Mr),zal x b q (k+k2) m Q M =
  if (zal x b q k m Q M).2.1=0 then zal x b q k2 (m+k) (zal x b q k m Q M).1 (zal x b q k m Q M).2.2 else zal x b q k m Q M
 | 0,k2,m,Q,M=>by
  rw [Nat.zero_add]
  show _=if (0:Int)=0 then zal x b q k2 m Q M else _
  rw [if_pos rfl]
 | k+1,k2,m,Q,M=>by
  have e:k+1+k2=(k+k2)+1:=by omega
  have e2:m+(k+1)=m+1+k:=by omega
  rw [e,e2]
  cases h:chosenL q.c x.ps m with
  | none=>
   rw [zcf h,zcf h]
   rw [if_neg (by show ¬(3:Int)=0;decide)]
  | some c=>
   by_cases h1:(nextM M b q.l (zao c)).2.1=0
   ·by_cases h2:zkP Q (halfL c) (nextM M b q.l (zao c)).1=true
    ·rw [zdt h h1 h2,zdt h h1 h2]
     exact zkU x b q k k2 (m+1) Q _
    ·by_cases h3:(spendM (nextM M b q.l (zao c)).2.2 1).1=true
     ·rw [zdu h h1 h2 h3,zdu h h1 h2 h3]
      exact zkU x b q k k2 (m+1) _ _
     ·rw [zbB h h1 h2 h3,zbB h h1 h2 h3]
      rw [if_neg (by show ¬(7:Int)=0;decide)]
   ·rw [zcA h h1,zcA h h1]
    rw [if_neg h1]
theorem zqQ {x:Lin} {b:List Lin} {q:Pr} {k m:Nat} {Q:List Pr} {M:Mr} (h:chosenL q.c x.ps m=none) (hk:0<k):zal x b q k m Q M=(Q,3,M):=by
 obtain ⟨j,rfl⟩:∃ j,k=j+1:=⟨k-1,by omega⟩
 exact zcf h
theorem zhL {a b:List Int} (ha:zaa a=true) (hb:zaa b=true):zaz a b=true↔∀ t,a.getD t 0+b.getD t 0≤1152921504606846976:=by
 constructor
 ·intro h t
  have h1:=zae (zeh h) t
  rw [zcG] at h1
  exact h1.2
 ·intro h
  exact (zfE ha hb (fun j _=>h j)).1
theorem zbd:∀ (ps:List (List Int)) (c:List Int) (m:Nat) (s:List Int),zaa c=true→chosenL c ps m=some s→zaa s=true
 | [],c,m,s,hc,h=>by
  injection h with h
  subst h
  exact hc
 | p::r,c,m,s,hc,h=>by
  unfold chosenL at h
  split at h
  ·split at h
   ·next ha=>exact zbd r _ _ s (zeh ha) h
   ·cases h
  ·exact zbd r _ _ s hc h
theorem zfU:∀ (ps:List (List Int)) (c:List Int) (m:Nat),zaa c=true→(∀ p∈ps,zaa p=true)→(∀ t,c.getD t 0+zcz ps m t≤1152921504606846976)→∃ s,chosenL c ps m=some s
 | [],c,m,_,_,_=>⟨c,rfl⟩
 | p::r,c,m,hc,hp,h=>by
  have hr:∀ q∈r,zaa q=true:=fun q hq=>hp q (List.mem_cons_of_mem _ hq)
  unfold chosenL
  by_cases hm:m % 2=1
  ·rw [if_pos hm]
   have h1:∀ t,c.getD t 0+(p.getD t 0+zcz r (m/2) t)≤1152921504606846976:=fun t=>by
    have:=h t
    unfold zcz at this
    rw [if_pos hm] at this
    exact this
   have ha:zaz c p=true:=(zhL hc (hp p (by simp))).2 (fun t=>by
    have h2:=h1 t
    have h3:=(zkH t r (m/2) hr).1
    omega)
   rw [if_pos ha]
   exact zfU r _ _ (zeh ha) hr (fun t=>by
    have:=h1 t
    rw [zcG]
    omega)
  ·rw [if_neg hm]
   exact zfU r _ _ hc hr (fun t=>by
    have:=h t
    unfold zcz at this
    rw [if_neg hm] at this
    omega)
theorem zfe (t:Nat):∀ (ps:List (List Int)) (i m:Nat),i<ps.length→m % 2 ^ (i+1)=0→zcz ps (m+2 ^ i) t=zcz ps m t+(ps.getD i []).getD t 0
 | [],i,m,h,_=>by simp at h
 | p::r,0,m,_,hm=>by
  have hm:m % 2=0:=by simpa using hm
  have e1:(m+2 ^ 0) % 2=1:=by rw [Nat.pow_zero];omega
  have e2:(m+2 ^ 0)/2=m/2:=by rw [Nat.pow_zero];omega
  unfold zcz
  rw [if_pos e1,if_neg (by omega),e2,List.getD_cons_zero]
  omega
 | p::r,i+1,m,h,hm=>by
  have e0:2 ^ (i+1)=2*2 ^ i:=by rw [Nat.pow_succ];omega
  have e00:2 ^ (i+1+1)=2*2 ^ (i+1):=by rw [Nat.pow_succ];omega
  rw [e00,Nat.mod_mul] at hm
  have h2:m % 2=0:=by omega
  have h3:m/2 % 2 ^ (i+1)=0:=by omega
  have ih:=zfe t r i (m/2) (by simpa using h) h3
  have e1:(m+2 ^ (i+1)) % 2=0:=by omega
  have e2:(m+2 ^ (i+1))/2=m/2+2 ^ i:=by omega
  have e3:zcz (p::r) (m+2 ^ (i+1)) t=0+zcz r (m/2+2 ^ i) t:=by
   show (if _ then _ else _)+zcz r ((m+2 ^ (i+1))/2) t=_
   rw [if_neg (by omega),e2]
  have e4:zcz (p::r) m t=0+zcz r (m/2) t:=by
   show (if _ then _ else _)+zcz r (m/2) t=_
   rw [if_neg (by omega)]
  rw [e3,e4,ih,List.getD_cons_succ]
  omega
theorem ziJ (ps:List (List Int)) (c:List Int) (i m:Nat) (s:List Int) (hi:i<ps.length) (hp:∀ p∈ps,zaa p=true) (hc:zaa c=true) (hm:m % 2 ^ (i+1)=0) (h:chosenL c ps m=some s) :
  zaa s=true∧chosenL c ps (m+2 ^ i)=if zaz s (ps.getD i [])=true then some (addT s (ps.getD i [])) else none:=by
 have hs:=zbd ps c m s hc h
 have hat:=zcQ ps c m s h
 have hpi:zaa (ps.getD i [])=true:=by
  have e:ps.getD i []=ps[i]:=by simp [List.getD,hi]
  rw [e]
  exact hp _ (List.getElem_mem hi)
 refine ⟨hs,?_⟩
 split
 ·next ha=>
  have h1:=(zhL hs hpi).1 ha
  obtain ⟨u,hu⟩:=zfU ps c (m+2 ^ i) hc hp (fun t=>by
   rw [zfe t ps i m hi hm]
   have:=h1 t
   have:=hat t
   omega)
  rw [hu]
  congr 1
  refine zgq (zbd _ _ _ _ hc hu) (zeh ha) (fun t=>?_)
  rw [zcQ _ _ _ _ hu t,zfe t ps i m hi hm,zcG,hat]
  omega
 ·next ha=>
  cases hu:chosenL c ps (m+2 ^ i) with
  | none=>rfl
  | some u=>
   exfalso
   refine ha ((zhL hs hpi).2 (fun t=>?_))
   have h1:=zcQ _ _ _ _ hu t
   rw [zfe t ps i m hi hm] at h1
   have h2:=(zae (zbd _ _ _ _ hc hu) t).2
   have:=hat t
   omega
theorem zgV {x:Lin} {b:List Lin} {q:Pr} (hx:∀ p∈x.ps,zaa p=true) (hq:zaa q.c=true):∀ (i m:Nat) (c:List Int) (Q:List Pr) (M:Mr),i≤x.ps.length→m % 2 ^ i=0→chosenL q.c x.ps m=some c→
  chGo x b q i c Q M=zal x b q (2 ^ i) m Q M
 | 0,m,c,Q,M,_,_,h=>by
  rw [Nat.pow_zero,zob h]
  rfl
 | i+1,m,c,Q,M,hi,hm,h=>by
  have hm2:m % 2 ^ i=0:=by
   have:m % 2 ^ (i+1) % 2 ^ i=m % 2 ^ i:=Nat.mod_mod_of_dvd m ⟨2,Nat.pow_succ 2 i⟩
   rw [hm,Nat.zero_mod] at this
   exact this.symm
  have e:2 ^ (i+1)=2 ^ i+2 ^ i:=by rw [Nat.pow_succ];omega
  have ih:=zgV (b:=b) hx hq i m c Q M (by omega) hm2 h
  obtain ⟨_,hmore⟩:=ziJ x.ps q.c i m c (by omega) hx hq hm h
  have hp:=Nat.two_pow_pos i
  rw [e,zkU]
  unfold chGo
  rw [ih]
  split
  ·split
   ·next ha=>
    rw [if_pos ha] at hmore
    exact zgV hx hq i (m+2 ^ i) _ _ _ (by omega) (by rw [Nat.add_mod_right];exact hm2) hmore
   ·next ha=>
    rw [if_neg ha] at hmore
    rw [zqQ hmore hp]
  ·rfl
end Go.Proofs.YtmnkjekjknhhjaaGreatDoor
namespace Go.Proofs.YtmnkjekjknhhjaaGreatDoor
open Go.ChangeShapes Go.WideShapes Go.ChangeAt Go.RowKit
theorem zsa {xs:List Int} {k:Nat} (hk:k<xs.length):orN (xs.take (k+1))=orN (xs.take k) ||| (xs.getD k 0).toNat:=by
 unfold orN
 rw [List.take_add_one,List.getElem?_eq_getElem hk,List.foldl_append,zaY hk]
 rfl
theorem zoT {xs:List Int} (h:zaa xs=true) (k:Nat):orN (xs.take k)<2 ^ 62:=zqP _ 0 (by decide) (fun n hn=>by
 have:=zhK h n (List.mem_of_mem_take hn)
 have e:(2:Nat) ^ 62=4611686018427387904:=by decide
 omega)
theorem ztX {xs:List Int} (h:zaa xs=true) {k:Nat} (hk:k<xs.length):bits .or .u64 ((orN (xs.take k):Nat):Int) (xs.getD k 0)=((orN (xs.take (k+1)):Nat):Int):=by
 have h1:=zae h k
 have h2:=zoT h k
 have e:(2:Nat) ^ 62=4611686018427387904:=by decide
 rw [zsa hk]
 generalize xs.getD k 0=v at h1 ⊢
 obtain ⟨u,rfl⟩:∃ u:Nat,v=u:=⟨v.toNat,by omega⟩
 rw [Int.toNat_natCast,bits_or_u64_nat _ _ (by omega) (by omega)]
set_option maxRecDepth 100000 in
set_option maxHeartbeats 1000000 in
theorem zsb (a:Option Addr) (c:Nat) (xs:List Int) (w:World) (R:Bag w a c xs) (hx:zaa xs=true) :
  Calls Tryz.prog 42 #[.slice a xs.length c] w (fun e w'=>e=.returned (.int .i64 ((Lib.bitLen (orN xs):Nat):Int))∧w=w'):=by
 have hle:=R.le
 have HR:=dq R
 have HRT:=dq hx
 have HTK:Hid (xs.take xs.length=xs):=dq List.take_length
 generalize hn:xs.length=n at hle HTK ⊢
 have HN:=dq hn
 have h62:=zoa hx
 have e62:(2:Nat) ^ 62=4611686018427387904:=by decide
 have Z:=Tryz.bits_Len ((orN xs:Nat):Int) w (by omega) (by omega)
 rw [Int.toNat_natCast] at Z
 have HZ:=dq Z
 generalize Lib.bitLen (orN xs)=D at HZ ⊢
 clear R hx hn Z h62 e62
 go_enter Tryz.func42,Tryz.ntmps42
 go_wp2
 go_loopw [3,8] (fun x i wr=>∃ k:Nat,k≤n∧i=.int .i64 k∧x=.int .u64 ((orN (xs.take k):Nat):Int)∧w=wr) (fun _ i _=>n-(intOf i).toNat)
 case atStart=>exact ⟨0,Nat.zero_le _,rfl,rfl,rfl⟩
 case round=>
  obtain ⟨k,hk,rfl,rfl,rfl⟩:=hrel
  by_cases hlt:k<n
  ·have hk':k<xs.length:=by rw [HN.out];exact hlt
   obtain ⟨g,rfl,hc⟩:=HR.out.at hk'
   have hb:=zae HRT.out k
   have hor:=ztX HRT.out hk'
   generalize xs.getD k 0=v at hc hb hor
   have HQ:=dq hor
   clear hor hk'
   have i1:(0:Int)≤(k:Int):=by omega
   have i2:(k:Int)<(n:Int):=by omega
   generalize hp:orN (xs.take k)=pk at HQ ⊢
   clear hp
   go_wp2
   go_roundw
   case rel=>exact ⟨k+1,by omega,by go_num,by first | rw [HQ.out] | rfl,by first | rfl | trivial⟩
   case measure=>simp [intOf];omega
  ·obtain rfl:k=n:=by omega
   rw [HTK.out]
   go_wp2_with (fail)
   refine HZ.out.mono ?_
   rintro e _ ⟨rfl,rfl⟩
   go_wp2
   go_ret
   exact ⟨rfl,rfl⟩
set_option maxRecDepth 100000 in
set_option maxHeartbeats 2000000 in
theorem zuV (a:Option Addr) (c:Nat) (xs:List Int) (w:World) (R:Bag w a c xs) (hx:zaa xs=true) :
  Calls Tryz.prog 159 #[.slice a xs.length c] w (zc4 (halfL xs) w):=by
 have hl12:=(zac.1 hx).1
 have hle:=R.le
 have HLT:Hid (∀ g,a=some ⟨g,0,none⟩→g<w.heap.size):=dq (fun g e=>R.lt e)
 have HHT:=dq (zku (xs:=xs) rfl)
 have HNL:Hid (halfL xs=normL (zdI xs)):=dq rfl
 generalize hn:xs.length=n at hle hl12 HHT ⊢
 have HN:=dq hn
 have HR:=dq R
 have HRT:=dq hx
 have HTL:Hid ((zdI xs).length=n):=dq ((zgd xs).trans hn)
 clear R hn hx
 go_enter Tryz.func159,Tryz.ntmps159
 go_wp2_with (at_make;refine zar _ rfl _ _ rfl _ _ n rfl rfl (by omega) (by omega) (by omega) ?_)
 intro w1 r1 b1
 have HR1:=dq (HR.out.below b1)
 have HO:Hid (Bag w1 (some ⟨w.heap.size,0,none⟩) n (tab n (fun j=>if j<0 then xs.getD j 0/2 else 0))):=dq (by simpa using r1)
 have HB:=dq b1
 clear r1 b1 HR
 generalize hgw:w.heap.size=gw at HO HLT ⊢
 have HGW:=dq hgw
 clear hgw
 go_wp2
 go_loopw [11] (fun i wr=>∃ k:Nat,k≤n∧i=.int .i64 k∧Hid (Bag wr (some ⟨gw,0,none⟩) n (tab n (fun j=>if j<k then xs.getD j 0/2 else 0)))∧Hid (Bag wr a c xs)∧Hid (Below w.heap.size w wr)) (fun i _=>n-(intOf i).toNat)
 case atStart=>exact ⟨0,Nat.zero_le _,rfl,HO,HR1,HB⟩
 case round=>
  clear HO HR1 HB
  obtain ⟨k,hk,rfl,HO,HR1,HB⟩:=hrel
  by_cases hlt:k<n
  ·have hk':k<xs.length:=by rw [HN.out];exact hlt
   obtain ⟨g,e1,hc⟩:=HR1.out.at hk'
   have hga:=HLT.out g e1
   subst e1
   have hb:=zae HRT.out k
   obtain ⟨g0,e0,hc0⟩:=HO.out.at (k:=k) (by rw [zaw];exact hlt)
   injection e0 with e0;injection e0 with e0
   subst e0
   have hfz:=HO.out.frozen k
   have O2:=HO.out.set (j:=k) (by rw [zaw];exact hlt) (xs.getD k 0/2)
   have e2:(tab n (fun j=>if j<k then xs.getD j 0/2 else 0)).set k (xs.getD k 0/2)=tab n (fun j=>if j<k+1 then xs.getD j 0/2 else 0):=by
    rw [zfD]
    refine zbk (fun j hj=>?_)
    by_cases hjk:j=k
    ·subst hjk;simp
    ·by_cases hj2:j<k
     ·rw [if_neg hjk,if_pos hj2,if_pos (by omega)]
     ·rw [if_neg hjk,if_neg hj2,if_neg (by omega)]
   rw [e2] at O2
   have kx:Kept (fun i=>i=gw) wr (wr.setCell ⟨gw,k,none⟩ (.int .i64 (xs.getD k 0/2))):=(Kept.refl (fun i=>i=gw) wr).setCell (p:=⟨gw,k,none⟩) (fun _=>rfl) _
   have HO2:=dq O2
   have HR2:=dq (HR1.out.kept kx (fun g' e e2=>by injection e with e;injection e with e;omega))
   have HB2:Hid (Below w.heap.size w (wr.setCell ⟨gw,k,none⟩ (.int .i64 (xs.getD k 0/2)))):=dq (HB.out.setCell (p:=⟨gw,k,none⟩) (by have:=HGW.out;show w.heap.size≤gw;omega) _)
   generalize xs.getD k 0=v at hc hb HO2 HR2 HB2
   clear hk' O2 kx e2 HO HR1 HB
   have i1:(0:Int)≤(k:Int):=by omega
   have i2:(k:Int)<(n:Int):=by omega
   have hq:v.tdiv 2=v/2:=Int.tdiv_eq_ediv_of_nonneg hb.1
   go_wp2
   go_roundw
   case rel=>exact ⟨k+1,by omega,by go_num,HO2,HR2,HB2⟩
   case measure=>simp [intOf];omega
  ·obtain rfl:k=n:=by omega
   have O2:=HO.out
   rw [HHT.out] at O2
   have Z:=zo5 (some ⟨gw,0,none⟩) k (zdI xs) wr O2 (by rw [HTL.out];omega)
   rw [HTL.out,←HNL.out] at Z
   have HZ:=dq Z
   clear Z O2 HO
   go_wp2_with (fail)
   refine HZ.out.mono ?_
   rintro e w3 ⟨a3,c3,rfl,B3,f3,b3⟩
   have hs:=HB.out.size
   have HF:Hid (zc4 (halfL xs) w (.returned (.slice a3 (halfL xs).length c3)) w3):=dq ⟨a3,c3,rfl,B3,fun g e=>Nat.le_trans hs (f3 g e),HB.out.trans (b3.mono hs)⟩
   have hl3:=B3.le
   generalize (halfL xs).length=hl at HF hl3 ⊢
   clear B3 f3 b3 HZ
   go_wp2
   go_ret
   exact HF.out
def zfn (m n:Nat):List Int:=tab (Lib.bitLen m) (fun t=>((m/2 ^ t % 2:Nat):Int)*2 ^ n)
theorem ztY (m k n:Nat) (hm:m<18446744073709551616) (hn:n≤59):wrap64 (wrap64 (bits .and .u64 ((m:Int)/2 ^ k) 1)*2 ^ n)=((m/2 ^ k % 2:Nat):Int)*2 ^ n:=by
 have ew:∀ z,wrap64 z=IntKind.i64.wrap z:=fun z=>by unfold wrap64;rw [IntKind.wrap_i64]
 rw [ew,ew]
 have e0:(m:Int)/2 ^ k=((m/2 ^ k:Nat):Int):=by rw [Int.natCast_ediv];simp
 have hle:m/2 ^ k≤m:=Nat.div_le_self _ _
 have e1:bits .and .u64 ((m/2 ^ k:Nat):Int) 1=((m/2 ^ k % 2:Nat):Int):=by
  have:=bits_and_u64_nat (m/2 ^ k) 1 (by omega) (by omega)
  rw [Nat.and_one_is_mod] at this
  exact this
 have hp:=zl2 hn
 rw [e0,e1]
 have h2:m/2 ^ k % 2<2:=Nat.mod_lt _ (by omega)
 generalize m/2 ^ k % 2=b at h2 ⊢
 have e2:IntKind.i64.wrap ((b:Nat):Int)=(b:Int):=by rw [IntKind.wrap_i64];omega
 rw [e2]
 have h3:(0:Int)≤(b:Int)*2 ^ n∧(b:Int)*2 ^ n≤576460752303423488:=by
  have:b=0∨b=1:=by omega
  rcases this with rfl | rfl
  ·simp
  ·simp only [Int.natCast_one,Int.one_mul];omega
 rw [IntKind.wrap_i64]
 omega
theorem ziK {m n:Nat} (hm:m<2 ^ 12) (t:Nat):(zfn m n).getD t 0=((m/2 ^ t % 2:Nat):Int)*2 ^ n:=by
 have h64:m<2 ^ 64:=Nat.lt_of_lt_of_le hm (Nat.pow_le_pow_right (by omega) (by omega))
 by_cases ht:t<Lib.bitLen m
 ·exact zd0 ht
 ·unfold zfn
  rw [zfZ (by omega)]
  have h1:=(zfd 64 m h64).1
  have h2:m/2 ^ t=0:=by
   have h3:m<2 ^ Lib.bitLen m:=by
    rcases Nat.lt_or_ge m (2 ^ Lib.bitLen m) with h | h
    ·exact h
    ·have:=Nat.div_pos h (Nat.two_pow_pos _)
     exact absurd h1 (by unfold Lib.bitLen at this;omega)
   exact Nat.div_eq_of_lt (Nat.lt_of_lt_of_le h3 (Nat.pow_le_pow_right (by omega) (by omega)))
  rw [h2]
  simp
theorem zoU {m n:Nat} (hm:m<2 ^ 12) (hn:n≤59):zaa (zfn m n)=true:=by
 have hp:=zl2 hn
 have h12:Lib.bitLen m≤12:=Lib.bitLen_le m 12 (by omega) hm
 have h64:m<2 ^ 64:=Nat.lt_of_lt_of_le hm (Nat.pow_le_pow_right (by omega) (by omega))
 have hlen:(zfn m n).length=Lib.bitLen m:=zaw _ _
 refine zac.2 ⟨by rw [hlen];exact h12,fun v hv=>?_,?_⟩
 ·obtain ⟨t,ht,rfl⟩:=List.getElem_of_mem hv
  rw [←zaY ht,ziK hm]
  have h2:m/2 ^ t % 2<2:=Nat.mod_lt _ (by omega)
  have:m/2 ^ t % 2=0∨m/2 ^ t % 2=1:=by omega
  rcases this with e | e<;>rw [e]
  ·simp
  ·simp only [Int.natCast_one,Int.one_mul];omega
 ·by_cases h0:Lib.bitLen m=0
  ·left
   exact List.eq_nil_of_length_eq_zero (by rw [hlen];exact h0)
  ·right
   rw [hlen,ziK hm]
   obtain ⟨h1,h2⟩:=zfd 64 m h64
   have h3:=h2 (by unfold Lib.bitLen at h0;omega)
   have h4:m/2 ^ (Lib.bitLenAux 64 m-1)/2=0:=by
    rw [Nat.div_div_eq_div_mul,←Nat.pow_succ,Nat.succ_eq_add_one,Nat.sub_add_cancel (by unfold Lib.bitLen at h0;omega)]
    exact h1
   have h5:m/2 ^ (Lib.bitLen m-1) % 2=1:=by unfold Lib.bitLen;omega
   rw [h5]
   simp only [Int.natCast_one,Int.one_mul]
   omega
theorem zmY {w c:List Int} {n m:Nat} (hn:n≤59) (hw:zaa w=true) (hlow:∀ t,w.getD t 0<2 ^ n) (hc:c.length≤12) (hm:zao c=(m:Int)) :
  m<2 ^ 12∧zaz w (zfn m n)=true∧zbp w (zfn m n)=zaf w (zao c) n:=by
 have hm12:m<2 ^ 12:=by
  have h1:=zbw c
  have h2:(2:Nat) ^ c.length≤2 ^ 12:=Nat.pow_le_pow_right (by omega) hc
  have e:(2:Int) ^ c.length=((2 ^ c.length:Nat):Int):=by simp
  have h3:zao c=packN c:=rfl
  omega
 have hp:=zl2 hn
 have hM:=zoU hm12 hn
 have hbit:∀ t,m/2 ^ t % 2=0∨m/2 ^ t % 2=1:=fun t=>by
  have:m/2 ^ t % 2<2:=Nat.mod_lt _ (by omega)
  omega
 have hok:zaz w (zfn m n)=true:=(zhL hw hM).2 (fun t=>by
  rw [ziK hm12]
  have h1:=hlow t
  rcases hbit t with e | e<;>rw [e]
  ·rw [show ((0:Nat):Int)=0 from rfl,Int.zero_mul];omega
  ·simp only [Int.natCast_one,Int.one_mul];omega)
 refine ⟨hm12,hok,?_⟩
 obtain ⟨r1,r2⟩:=zl3 hn hw hlow hc
 unfold zbp
 rw [if_pos hok]
 refine zgq (zeh hok) r1 (fun t=>?_)
 rw [r2,zcG,ziK hm12]
 have h1:=zdJ c t
 have h3:packN c=(m:Int):=hm
 rw [h3] at h1
 have h4:((m/2 ^ t % 2:Nat):Int)=c.getD t 0 % 2:=by
  rw [←h1,Int.natCast_emod,Int.natCast_ediv]
  simp
 rw [h4]
set_option maxRecDepth 100000 in
set_option maxHeartbeats 2000000 in
theorem zqR (a:Option Addr) (c:Nat) (xs:List Int) (m n:Nat) (w:World) (R:Bag w a c xs) (hm:m<2 ^ 12) (hn:n≤59) (hok:zaz xs (zfn m n)=true) :
  Calls Tryz.prog 160 #[.slice a xs.length c,.int .u64 (m:Nat),.int .i64 (n:Nat)] w (zc4 (zbp xs (zfn m n)) w):=by
 have hle:=R.le
 have HR:=dq R
 have HOK:=dq hok
 have hm12:Lib.bitLen m≤12:=Lib.bitLen_le m 12 (by omega) hm
 have e12:(2:Nat) ^ 12=4096:=by decide
 have HMT:Hid (zfn m n=tab (Lib.bitLen m) (fun t=>((m/2 ^ t % 2:Nat):Int)*2 ^ n)):=dq rfl
 have HMA:=dq (fun t=>ziK (n:=n) hm t)
 have HB1:=dq (fun k=>ztY m k n (by omega) hn)
 have Z:=(Tryz.bits_Len (m:Int) w (by omega) (by omega)).mono (fun e w' h=>(⟨h.1,h.2.symm⟩:e=_∧w=w'))
 rw [Int.toNat_natCast] at Z
 have HZ:=dq Z
 generalize Lib.bitLen m=L at hm12 HMT HZ
 generalize hl:xs.length=l at hle ⊢
 have HL:=dq hl
 clear Z hok R hl
 go_enter Tryz.func160,Tryz.ntmps160
 go_wp2_with (fail)
 refine HZ.out.mono ?_
 clear HZ
 rintro e _ ⟨rfl,rfl⟩
 go_wp2_with (at_make;refine zar _ rfl _ _ rfl _ _ L rfl rfl (by omega) (by omega) (by omega) ?_)
 intro w1 r1 b1
 have HR1:=dq (HR.out.below b1)
 have HO:Hid (Bag w1 (some ⟨w.heap.size,0,none⟩) L (tab L (fun j=>if j<0 then ((m/2 ^ j % 2:Nat):Int)*2 ^ n else 0))):=dq (by simpa using r1)
 have HB:=dq b1
 have HLT:Hid (∀ g,a=some ⟨g,0,none⟩→g<w.heap.size):=dq (fun g e=>HR.out.lt e)
 clear r1 b1 HR
 generalize hgw:w.heap.size=gw at HO HLT ⊢
 have HGW:=dq hgw
 clear hgw
 go_wp2
 go_loopw [16] (fun i wr=>∃ k:Nat,k≤L∧i=.int .i64 k∧Hid (Bag wr (some ⟨gw,0,none⟩) L (tab L (fun j=>if j<k then ((m/2 ^ j % 2:Nat):Int)*2 ^ n else 0)))∧Hid (Bag wr a c xs)∧Hid (Below w.heap.size w wr)) (fun i _=>L-(intOf i).toNat)
 case atStart=>exact ⟨0,Nat.zero_le _,rfl,HO,HR1,HB⟩
 case round=>
  clear HO HR1 HB
  obtain ⟨k,hk,rfl,HO,HR1,HB⟩:=hrel
  by_cases hlt:k<L
  ·obtain ⟨g0,e0,hc0⟩:=HO.out.at (k:=k) (by rw [zaw];exact hlt)
   injection e0 with e0;injection e0 with e0
   subst e0
   have hfz:=HO.out.frozen k
   have O2:=HO.out.set (j:=k) (by rw [zaw];exact hlt) (((m/2 ^ k % 2:Nat):Int)*2 ^ n)
   have e2:(tab L (fun j=>if j<k then ((m/2 ^ j % 2:Nat):Int)*2 ^ n else 0)).set k (((m/2 ^ k % 2:Nat):Int)*2 ^ n)=tab L (fun j=>if j<k+1 then ((m/2 ^ j % 2:Nat):Int)*2 ^ n else 0):=by
    rw [zfD]
    refine zbk (fun j hj=>?_)
    by_cases hjk:j=k
    ·subst hjk;simp
    ·by_cases hj2:j<k
     ·rw [if_neg hjk,if_pos hj2,if_pos (by omega)]
     ·rw [if_neg hjk,if_neg hj2,if_neg (by omega)]
   rw [e2] at O2
   have hbit:=HB1.out k
   generalize ((m/2 ^ k % 2:Nat):Int)*2 ^ n=v at O2 hbit
   have kx:Kept (fun i=>i=gw) wr (wr.setCell ⟨gw,k,none⟩ (.int .i64 v)):=(Kept.refl (fun i=>i=gw) wr).setCell (p:=⟨gw,k,none⟩) (fun _=>rfl) _
   have HO2:=dq O2
   have HR2:=dq (HR1.out.kept kx (fun g' e e2=>by have:=HLT.out g' e;omega))
   have HB2:Hid (Below w.heap.size w (wr.setCell ⟨gw,k,none⟩ (.int .i64 v))):=dq (HB.out.setCell (p:=⟨gw,k,none⟩) (by have:=HGW.out;show w.heap.size≤gw;omega) _)
   have HBT:=dq hbit
   clear O2 kx e2 HO HR1 HB hbit
   have i1:(0:Int)≤(k:Int):=by omega
   have i2:(k:Int)<(L:Int):=by omega
   go_wp2
   rw [HBT.out]
   go_roundw
   case rel=>exact ⟨k+1,by omega,by go_num,HO2,HR2,HB2⟩
   case measure=>simp [intOf];omega
  ·obtain rfl:k=L:=by omega
   have O2:=HO.out
   have e3:tab k (fun j=>if j<k then ((m/2 ^ j % 2:Nat):Int)*2 ^ n else 0)=zfn m n:=by
    rw [HMT.out]
    exact zbk (fun j hj=>by rw [if_pos hj])
   have hml:(zfn m n).length=k:=by rw [HMT.out,zaw]
   rw [e3] at O2
   have Z:=zsF a (some ⟨gw,0,none⟩) c k xs (zfn m n) wr HR1.out O2
   rw [HL.out,hml,HOK.out] at Z
   have HZ:=dq Z
   clear Z O2 HO
   go_wp2_with (fail)
   refine HZ.out.mono ?_
   rintro e w3 ⟨a3,c3,rfl,B3,f3,b3⟩
   have hs:=HB.out.size
   have HF:Hid (zc4 (zbp xs (zfn m n)) w (.returned (.slice a3 (zbp xs (zfn m n)).length c3)) w3):=dq ⟨a3,c3,rfl,B3,fun g e=>Nat.le_trans hs (f3 g e),HB.out.trans (b3.mono hs)⟩
   have hl3:=B3.le
   generalize (zbp xs (zfn m n)).length=hl at HF hl3 ⊢
   clear B3 f3 b3 HZ
   go_wp2
   go_ret
   exact HF.out
def OwnU (w:World) (B:Nat) (v:Value) (l:List UInt8):Prop:=w.ownsRow B 5 1 v l.length (Lib.byteCells l)
theorem zsc (w:World) (B:Nat):OwnU w B (.slice none 0 0) []:=⟨rfl,.inl ⟨rfl,rfl⟩⟩
theorem Tryz.info5o:(Tryz.prog.info? 5).map (fun i=>(i.zero,i.size,i.bytes))=some (some (.int .u8 0),1,1):=by kernel_rfl
theorem zmb (l k:List UInt8):Lib.byteCells (l++k)=Lib.byteCells l++Lib.byteCells k:=List.map_append ..
theorem zoV {ws:List Int} {k:Nat} (hk:k<ws.length):wordB (ws.take (k+1))=wordB (ws.take k)++(Lib.itoa (ws.getD k 0)++[32]):=by
 unfold wordB
 rw [List.take_add_one,List.getElem?_eq_getElem hk,List.flatMap_append,zaY hk]
 simp [zi2]
theorem OwnU.num {w':World} {B:Nat} {v':Value} {l k:List UInt8} (h:w'.ownsRow B 5 1 v' (l.length+k.length) (Lib.byteCells l++Lib.byteCells k)):OwnU w' B v' (l++k):=by
 unfold OwnU
 rw [zmb,List.length_append]
 exact h
theorem Lies.others {w w':World} {g:Nat} {t:TypeId} {cs:List Value} (l:Lies w g t cs) (ht:t≠5) (k:Lib.OthersKept 5 none w w'):Lies w' g t cs:=k g _ l (by simp) (fun c fz e=>by injection e with _ e;exact ht e)
theorem zff {B:Nat} {w w':World} (h:Below B w w'):Below B w w'.drew:=⟨h.os,h.tape,h.output,h.size,h.block⟩
theorem zqS {B:Nat} {w w':World} (h:Below B w w'):Kept (fun g=>B≤g) w w':=⟨h.os,h.tape,h.output,h.size,fun i _ hx=>h.block i (by omega)⟩
set_option maxRecDepth 100000 in
theorem OwnU.push {w w':World} {B:Nat} {v v':Value} {l:List UInt8} {x:UInt8} (hB:B≤w.heap.size) (h:OwnU w B v l) {cs:Array Value} (k:w'.ownsRow B 5 1 v' (l.length+1) (Lib.byteCells l++[.int .u8 (x.toNat:Int)])) (hg:(w.alloc (.cells cs 5)).grownBy w' v.ownBlock):OwnU w' B v' (l++[x])∧Below B w w'∧Lib.OthersKept 5 none w w':=by
 refine ⟨?_,((Below.refl B w).alloc hB _).grown hg (by simp;omega) (fun k hk=>(World.ownsRow.lt h k hk).1),((Lib.OthersKept.refl 5 none w).alloc _).grown hg (Lib.ownsRow_kind (World.ownsRow.alloc h _))⟩
 unfold OwnU
 rw [zmb,List.length_append]
 exact k
set_option maxRecDepth 100000 in
set_option maxHeartbeats 2000000 in
theorem zgB (B:Nat) (v0:Value) (l:List UInt8) (a:Option Addr) (c:Nat) (ws:List Int) (w:World) (HO0:OwnU w B v0 l) (hB:B≤w.heap.size) (R:Bag w a c ws) (hr:zaa ws=true) (hab:∀ g,a=some ⟨g,0,none⟩→g<B) (hlim:l.length≤100000000000) (htab:Lib.TabBelow Tryz.prog B w "internal/strconv.uint64pow10" .u64 Lib.pow10Tab) :
  Calls Tryz.prog 136 #[v0,.slice a ws.length c] w (fun e w'=>∃ v',e=.returned v'∧OwnU w' B v' (l++wordB ws)∧Below B w w'∧Lib.OthersKept 5 none w w'):=by
 have hle:=R.le
 have hl12:=(zac.1 hr).1
 have HR:=dq R
 have HRT:=dq hr
 have HAB:=dq hab
 have HTB:=dq htab
 have HBS:=dq hB
 have HO:Hid (OwnU w B v0 (l++wordB (ws.take 0))):=dq (by simpa [wordB] using HO0)
 have HTK:Hid (ws.take ws.length=ws):=dq List.take_length
 have HLW:Hid (∀ k,(l++wordB (ws.take k)).length≤100000000264):=dq (fun k=>by
  have h1:=zgA (c:=ws.take k) (fun n hn=>ziH hr n (List.mem_of_mem_take hn))
  have h2:(ws.take k).length≤ws.length:=by rw [List.length_take];omega
  rw [List.length_append]
  omega)
 have HBB:Hid (Below B w w∧Lib.OthersKept 5 none w w):=dq ⟨Below.refl B w,Lib.OthersKept.refl 5 none w⟩
 generalize hn:ws.length=n at hle hl12 HTK ⊢
 have HN:=dq hn
 clear R hr hab htab hB HO0 hn
 go_enter Tryz.func136,Tryz.ntmps136
 go_wp2
 go_loopw [0,9] (fun v i wr=>∃ k:Nat,k≤n∧i=.int .i64 k∧Hid (OwnU wr B v (l++wordB (ws.take k)))∧Hid (Below B w wr∧Lib.OthersKept 5 none w wr)) (fun _ i _=>n-(intOf i).toNat)
 case atStart=>exact ⟨0,Nat.zero_le _,rfl,HO,HBB⟩
 case round=>
  clear HO HBB
  obtain ⟨k,hk,rfl,HO,HB⟩:=hrel
  by_cases hlt:k<n
  ·have hk':k<ws.length:=by rw [HN.out];exact hlt
   have HRW:=HR.out.kept (zqS HB.out.1) (fun g e=>by have:=HAB.out g e;omega)
   obtain ⟨g,rfl,hc⟩:=HRW.at hk'
   have hb:=zae HRT.out k
   have HWT:=dq (zoV hk')
   have hlw:=HLW.out k
   have hlw2:=HLW.out (k+1)
   have hbr:B≤wr.heap.size:=Nat.le_trans HBS.out HB.out.1.size
   generalize hw1:wordB (ws.take (k+1))=wk1 at HWT hlw2
   have HE1:=dq hw1
   clear hw1
   generalize wordB (ws.take k)=wk at HO HWT hlw
   generalize ws.getD k 0=x at hc hb HWT
   have Z:=Tryz.strconv_AppendInt_10 B (l++wk).length x (by omega) (by omega) _ (Lib.byteCells (l++wk)) wr HO.out hbr (by omega) (HTB.out.on HB.out.1)
   have HZ:=dq Z
   have i1:(0:Int)≤(k:Int):=by omega
   have i2:(k:Int)<(n:Int):=by omega
   have HBR:=dq hbr
   clear Z HRW hk' hb hbr
   go_wp2_with (fail)
   refine HZ.out.mono ?_
   clear HZ
   rintro e w2 ⟨v2,rfl,o2,b2,k2⟩
   have HO2:=dq (OwnU.num o2)
   have HB2:=dq (And.intro (HB.out.1.trans b2) (HB.out.2.trans k2))
   have hb2:B≤w2.heap.size:=Nat.le_trans HBR.out b2.size
   have hl2:(l++wk++Lib.itoa x).length≤100000000300:=by
    rw [HWT.out] at hlw2
    simp only [List.length_append,List.length_singleton] at hlw2 ⊢
    omega
   have HLL:Hid (l++wk1=l++wk++Lib.itoa x++[32]):=dq (by rw [HWT.out];simp)
   generalize l++wk++Lib.itoa x=L at HO2 hl2 HLL
   obtain ⟨i0,hi0,hz0,hs0,hy0⟩:=info_parts Tryz.info5o
   clear o2 b2 k2
   go_wp2_with (at_builtin;refine wpList_append_own _ rfl _ _ 165 rfl B 5 i0 (.int .u8 0) 1 1 Tryz.underlying165 hi0 hz0 hs0 hy0 rfl (by decide) _ _ _ rfl (World.ownsRow.alloc HO2.out _) ⟨w2.heap.size,0,none⟩ 1 1 [Value.int .u8 32] rfl rfl (by intro j u' hj;match j,hj with | 0,hj=>simp at hj;subst hj;simp [Addr.add]) (by intro u' hu';simp at hu';subst hu';rfl) (by unfold maxLen;omega) (by omega) (by simp;omega) ?_)
   intro v3 w3 o3 g3 _
   obtain ⟨O3,b3,k3⟩:=OwnU.push (x:=32) hb2 HO2.out o3 g3
   have HO3:Hid (OwnU w3 B v3 (l++wordB (ws.take (k+1)))):=dq (by rw [HE1.out,HLL.out];exact O3)
   have HB3:=dq (And.intro (HB2.out.1.trans b3) (HB2.out.2.trans k3))
   clear o3 g3 O3 b3 k3 HO2 HB2 hl2 hlw hlw2
   go_wp2
   go_roundw
   case rel=>exact ⟨k+1,by omega,by go_num,HO3,HB3⟩
   case measure=>simp [intOf];omega
  ·obtain rfl:k=n:=by omega
   rw [HTK.out] at HO
   go_wp2
   go_ret
   exact ⟨_,rfl,HO.out,HB.out.1,HB.out.2⟩
end Go.Proofs.YtmnkjekjknhhjaaGreatDoor
