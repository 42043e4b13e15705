import Derived.Test.YtmnkjekjknhhjaaGreatDoorNf
import Derived.Test.YtmnkjekjknhhjaaGreatDoorQCe
namespace Go.Proofs.YtmnkjekjknhhjaaGreatDoor
open Go.ChangeShapes Go.WideShapes Go.ChangeAt Go.RowKit
theorem Small.more {m m':Int} {l:List Int} (h:Small m l) (hm:m≤m'):Small m' l:=⟨h.right,h.len,fun j=>Int.le_trans (h.top j) hm⟩
theorem zcL {m:Int} (hm:0≤m):Small m []:=⟨by decide,by simp,fun j=>by simpa using hm⟩
def Good (u:Nat) (s:List Lin):Prop:=TrimS ((u:Int)*1000000000) (2 ^ u) (2 ^ u) s
theorem zaD {a b:Nat} (h:a≤b):2 ^ a≤2 ^ b:=Nat.pow_le_pow_right (by omega) h
theorem Good.more {u v:Nat} {s:List Lin} (h:Good u s) (huv:u≤v):Good v s:=
 ⟨h.rise,fun x hx=>⟨(h.each x hx).right,(h.each x hx).base.more (by omega),Nat.le_trans (h.each x hx).few (zaD huv)⟩,Nat.le_trans h.few (zaD huv)⟩
theorem zny (u:Nat):Good u []:=⟨zcI,fun x h=>by simp at h,Nat.zero_le _⟩
theorem zfK {u:Nat} {x:Lin} (h:Trim ((u:Int)*1000000000) (2 ^ u) x):Good u [x]:=
 ⟨⟨fun z hz=>by obtain rfl:=List.mem_singleton.1 hz;exact h.right,by simp⟩,fun z hz=>by obtain rfl:=List.mem_singleton.1 hz;exact h,Nat.one_le_two_pow⟩
theorem znz (u:Nat):Good u zmv:=zfK ⟨za7,zcL (by omega),Nat.zero_le _⟩
theorem zki {t n:Int} (h0:0≤t) (h1:t<12) (h2:1≤n) (h3:n≤999999999):Good 1 [⟨zc5 t n,[]⟩]:=by
 have ok:ziR t n=true:=zgG.2 ⟨⟨h0,by omega⟩,h2,by omega⟩
 refine zfK ⟨zai.2 ⟨zhV ok,by simp [zk9,zd7]⟩,⟨zhV ok,?_,fun j=>?_⟩,Nat.zero_le _⟩
 ·unfold zc5
  rw [if_pos ok,zaw]
  omega
 ·unfold zc5
  rw [if_pos ok]
  by_cases hj:j<t.toNat+1
  ·rw [zd0 hj]
   split<;>omega
  ·have:(tab (t.toNat+1) (fun j=>if j=t.toNat then n else 0)).getD j 0=0:=by
    rw [List.getD_eq_getElem?_getD,List.getElem?_eq_none (by rw [zaw];omega)];rfl
   rw [this];omega
theorem znA {a b:Nat} {s t:List Lin} (hs:Good a s) (ht:Good b t):Good (a+b+1) (zaT s t):=by
 have h1:Good (a+b) s:=hs.more (by omega)
 have h2:Good (a+b) t:=ht.more (by omega)
 have h:=TrimS.union h1 h2
 refine ⟨h.rise,fun x hx=>?_,?_⟩
 ·have g:=h.each x hx
  exact ⟨g.right,g.base.more (by omega),Nat.le_trans g.few (zaD (by omega))⟩
 ·have:=h.few
  rw [Nat.pow_succ]
  omega
theorem znB {a b:Nat} {s t:List Lin} (hs:Good a s) (ht:Good b t) (h:a+b≤1000):zbD s t=true∧Good (a+b+1) (zmj s t):=by
 have hle:(a:Int)*1000000000+(b:Int)*1000000000≤1000000000000000:=by omega
 refine ⟨TrimS.cats hs ht hle,?_⟩
 have g:=TrimS.cat hs ht hle
 have p1:=zaD (show a≤a+b by omega)
 have p2:=zaD (show b≤a+b by omega)
 refine ⟨g.rise,fun x hx=>?_,?_⟩
 ·have e:=g.each x hx
  refine ⟨e.right,e.base.more (by omega),?_⟩
  have:=e.few
  rw [Nat.pow_succ]
  omega
 ·have:=g.few
  rw [←Nat.pow_add] at this
  exact Nat.le_trans this (zaD (by omega))
theorem zkj (ps:List (List Int)):(zbh [] ps).base=[]:=by
 unfold zbh
 split
 ·show normL []=[]
  decide
 ·rfl
theorem zsu (b:List Int) (ps:List (List Int)):(zbh b ps).ps.length≤ps.length:=by
 unfold zbh
 split
 ·have h:=zcC (zaN ps) []
  have h2:(zaN ps).length≤ps.length:=by
   unfold zaN
   have:=List.length_filter_le (fun p=>decide (p≠[])) (ps.map normL)
   rwa [List.length_map] at this
  simp only [List.length_nil] at h
  exact Nat.le_trans h (by omega)
 ·exact Nat.zero_le _
theorem zlm {a:Nat} {s:List Lin} (hs:Good a s):Good (a+1) [zbh [] (zax s)]:=by
 refine zfK ⟨znr _ _,by rw [zkj];exact zcL (by omega),?_⟩
 have h:=zsu [] (zax s)
 have h2:(zax s).length=s.length:=by unfold zax;rw [List.length_map]
 have:=hs.few
 have:=zaD (show a≤a+1 by omega)
 omega
theorem zmz {M:Mr} {s t:List Lin} (h:(zfi M s t).2.1=0):(zfi M s t).1=zmj s t:=by
 unfold zfi at h ⊢
 split
 ·split
  ·split
   ·rfl
   ·next h1 h2 h3=>rw [if_pos h1,if_pos h2,if_neg h3] at h;simp at h
  ·next h1 h2=>rw [if_pos h1,if_neg h2] at h;simp at h
 ·next h1=>rw [if_neg h1] at h;simp at h
theorem znC {M:Mr} {s:List Lin} (h:(zbS M s).2.1=0):(zbS M s).1=[zbh [] (zax s)]:=by
 unfold zbS at h ⊢
 split
 ·split
  ·rfl
  ·next h1 h2=>rw [if_pos h1,if_neg h2] at h;simp at h
 ·next h1=>rw [if_neg h1] at h;simp at h
def Stk (es:List (List Lin)):List (Int×Bool)→Nat→Prop
 | [],_=>True
 | p::r,t=>∃ u v,u+v≤t∧(∃ j:Nat,p.1=(j:Int)∧j<es.length∧Good u (es.getD j []))∧Stk es r v
theorem znD {es:List (List Lin)}:∀ {fl:List (Int×Bool)} {t t':Nat},Stk es fl t→t≤t'→Stk es fl t'
 | [],_,_,_,_=>trivial
 | _::_,_,_,h,le=>by
  obtain ⟨u,v,huv,g,r⟩:=h
  exact ⟨u,v,by omega,g,r⟩
theorem zkk {es:List (List Lin)} (x:List Lin):∀ {fl:List (Int×Bool)} {t:Nat},Stk es fl t→Stk (es++[x]) fl t
 | [],_,_=>trivial
 | _::_,_,h=>by
  obtain ⟨u,v,huv,⟨j,hj,hl,g⟩,r⟩:=h
  refine ⟨u,v,huv,⟨j,hj,by simp;omega,?_⟩,zkk x r⟩
  have:(es++[x]).getD j []=es.getD j []:=by
   rw [List.getD_eq_getElem?_getD,List.getD_eq_getElem?_getD,List.getElem?_append_left hl]
  rw [this];exact g
theorem zib {es:List (List Lin)}:∀ {A B:List (Int×Bool)} {t:Nat},Stk es (A++B) t→∃ u v,u+v≤t∧Stk es A u∧Stk es B v
 | [],_,t,h=>⟨0,t,by omega,trivial,h⟩
 | p::A,B,t,h=>by
  obtain ⟨u,v,huv,g,r⟩:=h
  obtain ⟨u',v',h',a,b⟩:=zib (A:=A) r
  exact ⟨u+u',v',by omega,⟨u,u',Nat.le_refl _,g,a⟩,b⟩
theorem zkl {es:List (List Lin)}:∀ {A B:List (Int×Bool)} {u v:Nat},Stk es A u→Stk es B v→Stk es (A++B) (u+v)
 | [],_,_,_,_,h=>znD h (by omega)
 | p::A,B,_,_,h,k=>by
  obtain ⟨u,v,huv,g,r⟩:=h
  exact ⟨u,v+_,by omega,g,zkl (A:=A) r k⟩
theorem zpN {es:List (List Lin)} {x:List Lin} {u:Nat} {b:Bool} (h:Good u x):Stk (es++[x]) [((es.length:Int),b)] u:=
 ⟨u,0,by omega,⟨es.length,rfl,by simp,by simpa using h⟩,trivial⟩
end Go.Proofs.YtmnkjekjknhhjaaGreatDoor
