import Derived.Test.YtmnkjekjknhhjaaGreatDoorTk
namespace Go.Proofs.YtmnkjekjknhhjaaGreatDoor
open Go.ChangeShapes Go.WideShapes Go.ChangeAt Go.RowKit
def leN:Nat→Nat→List UInt8
 | 0,_=>[]
 | k+1,n=>UInt8.ofNat n::leN k (n/256)
theorem zgS:∀ k n,(leN k n).length=k
 | 0,_=>rfl
 | k+1,n=>by rw [leN,List.length_cons,zgS k]
theorem znX:∀ k n,leN (k+1) n=leN k n++[UInt8.ofNat (n/256 ^ k)]
 | 0,n=>by simp [leN]
 | k+1,n=>by
  have ih:=znX k (n/256)
  rw [leN,ih,Nat.div_div_eq_div_mul,←Nat.pow_succ']
  rfl
theorem zgu {a b:Nat} (h:UInt8.ofNat a=UInt8.ofNat b):a % 256=b % 256:=by
 have:=congrArg UInt8.toNat h
 simpa using this
theorem zqC:∀ k n m,leN k n=leN k m→n % 256 ^ k=m % 256 ^ k
 | 0,n,m,_=>by simp [Nat.mod_one]
 | k+1,n,m,h=>by
  rw [leN,leN] at h
  injection h with h1 h2
  have h3:=zgu h1
  have h4:=zqC k _ _ h2
  rw [Nat.pow_succ',Nat.mod_mul,Nat.mod_mul,h3,h4]
def zaH (c:List Int):List UInt8:=UInt8.ofNat c.length::c.flatMap (fun n=>leN 8 n.toNat)
def zgv (x:It):List UInt8:=47::UInt8.ofNat x.j.toNat::UInt8.ofNat (x.j.toNat/256)::(zaH x.c++[59])
def textB (c:List Int) (l:List It):List UInt8:=zaH c++l.flatMap zgv
def zuF (n:Int):Prop:=0≤n∧n<18446744073709551616
theorem ztJ {n m:Int} (hn:zuF n) (hm:zuF m) (h:leN 8 n.toNat=leN 8 m.toNat):n=m:=by
 have h1:=zqC 8 _ _ h
 have e:(256:Nat) ^ 8=18446744073709551616:=by decide
 rw [e] at h1
 have:=hn.1;have:=hn.2;have:=hm.1;have:=hm.2
 omega
theorem znY:∀ (c d:List Int) (r s:List UInt8),c.length=d.length→(∀ n∈c,zuF n)→(∀ n∈d,zuF n)→
  c.flatMap (fun n=>leN 8 n.toNat)++r=d.flatMap (fun n=>leN 8 n.toNat)++s→c=d∧r=s
 | [],[],r,s,_,_,_,h=>⟨rfl,by simpa using h⟩
 | [],_::_,_,_,h,_,_,_=>by simp at h
 | _::_,[],_,_,h,_,_,_=>by simp at h
 | x::c,y::d,r,s,hl,hc,hd,h=>by
  rw [List.flatMap_cons,List.flatMap_cons,List.append_assoc,List.append_assoc] at h
  have h1:=List.append_inj h (by rw [zgS,zgS])
  obtain ⟨e1,e2⟩:=znY c d r s (by simpa using hl) (fun n hn=>hc n (List.mem_cons_of_mem _ hn)) (fun n hn=>hd n (List.mem_cons_of_mem _ hn)) h1.2
  exact ⟨by rw [ztJ (hc x (by simp)) (hd y (by simp)) h1.1,e1],e2⟩
theorem ziy {c:List Int} (h:zaa c=true):∀ n∈c,zuF n:=fun n hn=>by
 obtain ⟨k,hk,rfl⟩:=List.getElem_of_mem hn
 have:=zae h k
 rw [zaY hk] at this
 exact ⟨this.1,by omega⟩
theorem zlZ {c d:List Int} {r s:List UInt8} (hc:zaa c=true) (hd:zaa d=true) (h:zaH c++r=zaH d++s):c=d∧r=s:=by
 unfold zaH at h
 rw [List.cons_append,List.cons_append] at h
 injection h with h1 h2
 have h3:=zgu h1
 have h4:=(zac.1 hc).1
 have h5:=(zac.1 hd).1
 exact znY c d r s (by omega) (ziy hc) (ziy hd) h2
def zfl (l:List It):Prop:=∀ x∈l,zah x=true∧0≤x.j∧x.j<65536
theorem zl0:∀ (l k:List It),zfl l→zfl k→l.flatMap zgv=k.flatMap zgv→l=k
 | [],[],_,_,_=>rfl
 | [],y::k,_,_,h=>by simp [zgv] at h
 | x::l,[],_,_,h=>by simp [zgv] at h
 | x::l,y::k,hl,hk,h=>by
  obtain ⟨x1,x2,x3⟩:=hl x (by simp)
  obtain ⟨y1,y2,y3⟩:=hk y (by simp)
  rw [List.flatMap_cons,List.flatMap_cons] at h
  unfold zgv at h
  simp only [List.cons_append,List.append_assoc] at h
  injection h with _ h
  injection h with h1 h
  injection h with h2 h
  obtain ⟨e1,h⟩:=zlZ x1 y1 h
  injection h with _ h
  have ih:=zl0 l k (fun z hz=>hl z (List.mem_cons_of_mem _ hz)) (fun z hz=>hk z (List.mem_cons_of_mem _ hz)) h
  have h1:=zgu h1
  have h2:=zgu h2
  have e2:x.j=y.j:=by omega
  obtain ⟨xj,xc⟩:=x
  obtain ⟨yj,yc⟩:=y
  simp only at e1 e2
  rw [e1,e2,ih]
theorem zrZ {c d:List Int} {l k:List It} (hc:zaa c=true) (hd:zaa d=true) (hl:zfl l) (hk:zfl k) (h:textB c l=textB d k):c=d∧l=k:=by
 unfold textB at h
 obtain ⟨e1,e2⟩:=zlZ hc hd h
 exact ⟨e1,zl0 l k hl hk e2⟩
end Go.Proofs.YtmnkjekjknhhjaaGreatDoor
