namespace Go.Proofs.YtmnkjekjknhhjaaGreatDoor
def okN (n:Int):Bool:=decide (0≤n) && decide (n≤1152921504606846976)
theorem zaQ {n:Int}:okN n=true↔0≤n∧n≤1152921504606846976:=by simp [okN]
theorem zhU {n:Int}:okN n=false↔n<0∨1152921504606846976<n:=by
 rw [←Bool.not_eq_true,zaQ];omega
def tab (n:Nat) (f:Nat→Int):List Int:=(List.range n).map f
theorem zaw (n:Nat) (f:Nat→Int):(tab n f).length=n:=by simp [tab]
theorem zd0 {n:Nat} {f:Nat→Int} {j:Nat} (hj:j<n):(tab n f).getD j 0=f j:=by simp [tab,List.getD,hj]
theorem zfZ {n:Nat} {f:Nat→Int} {j:Nat} (hj:n≤j):(tab n f).getD j 0=0:=by
 simp [tab,List.getD,hj]
theorem zms {n:Nat} {f:Nat→Int} {j:Nat} (hj:j<(tab n f).length):(tab n f)[j]=f j:=by simp [tab]
theorem zbk {n:Nat} {f g:Nat→Int} (h:∀ j,j<n→f j=g j):tab n f=tab n g:=by
 unfold tab;exact List.map_congr_left (fun j hj=>h j (List.mem_range.1 hj))
theorem zfD {n:Nat} {f:Nat→Int} (i:Nat) (v:Int):(tab n f).set i v=tab n (fun j=>if j=i then v else f j):=by
 apply List.ext_getElem (by simp [tab])
 intro j h1 h2
 rw [zms,List.getElem_set]
 by_cases h:i=j
 ·rw [if_pos h,if_pos h.symm]
 ·rw [if_neg h,if_neg (fun e=>h e.symm),zms]
theorem zas {l:List Int} {j:Nat} (hj:l.length≤j):l.getD j 0=0:=by simp [List.getD,hj]
theorem zaY {l:List Int} {j:Nat} (hj:j<l.length):l.getD j 0=l[j]:=by simp [List.getD,hj]
theorem zhC {a b:List Int} (hl:a.length=b.length) (h:∀ j,j<a.length→a.getD j 0=b.getD j 0):a=b:=by
 apply List.ext_getElem hl
 intro j h1 h2
 have:=h j h1
 rwa [zaY h1,zaY h2] at this
def zaa (l:List Int):Bool:=decide (l.length≤12) && l.all okN && decide (l=[]∨l.getD (l.length-1) 0≠0)
theorem zac {l:List Int}:zaa l=true↔l.length≤12∧(∀ n∈l,0≤n∧n≤1152921504606846976)∧(l=[]∨l.getD (l.length-1) 0≠0):=by
 simp only [zaa,Bool.and_eq_true,decide_eq_true_eq,List.all_eq_true,zaQ,and_assoc]
theorem zae {l:List Int} (h:zaa l=true) (j:Nat):0≤l.getD j 0∧l.getD j 0≤1152921504606846976:=by
 by_cases hj:j<l.length
 ·rw [zaY hj];exact (zac.1 h).2.1 _ (List.getElem_mem hj)
 ·rw [zas (by omega)];omega
theorem za1 {l:List Int} (h:zaa l=true) (hl:0<l.length):l.getD (l.length-1) 0≠0:=by
 rcases (zac.1 h).2.2 with rfl | h
 ·simp at hl
 ·exact h
theorem zcx {l:List Int} (h1:l.length≤12) (h2:∀ j,j<l.length→0≤l.getD j 0∧l.getD j 0≤1152921504606846976) (h3:0<l.length→l.getD (l.length-1) 0≠0):zaa l=true:=by
 rw [zac]
 refine ⟨h1,fun n hn=>?_,?_⟩
 ·obtain ⟨j,hj,rfl⟩:=List.getElem_of_mem hn
  have:=h2 j hj
  rwa [zaY hj] at this
 ·cases l with
  | nil=>exact .inl rfl
  | cons x r=>exact .inr (h3 (by simp))
theorem zja {l:List Int} (h:12<l.length):zaa l=false:=by
 rw [←Bool.not_eq_true,zac];omega
theorem zdB {l:List Int} {j:Nat} (h:okN (l.getD j 0)=false):zaa l=false:=by
 rw [←Bool.not_eq_true]
 intro hr
 have:=zae hr j
 rw [zhU] at h
 omega
theorem zom {l:List Int} (hl:0<l.length) (h:l.getD (l.length-1) 0=0):zaa l=false:=by
 rw [←Bool.not_eq_true]
 intro hr
 exact za1 hr hl h
def cut:List Int→Nat
 | []=>0
 | x::r=>if cut r=0 then (if x=0 then 0 else 1) else cut r+1
theorem zfo:∀ l:List Int,cut l≤l.length
 | []=>Nat.le_refl _
 | x::r=>by
  have:=zfo r
  unfold cut
  simp only [List.length_cons]
  split
  ·split<;>omega
  ·omega
theorem znj:∀ (l:List Int) (k:Nat),(∀ i,k≤i→l.getD i 0=0)→(k=0∨l.getD (k-1) 0≠0)→cut l=k
 | [],k,_,h=>by
  rcases h with rfl | h
  ·rfl
  ·simp at h
 | x::r,0,h,_=>by
  have h0:x=0:=by simpa using h 0 (Nat.le_refl _)
  have:=znj r 0 (fun i _=>by simpa using h (i+1) (Nat.zero_le _)) (.inl rfl)
  simp [cut,this,h0]
 | x::r,k+1,h,h'=>by
  have hx:(x::r).getD k 0≠0:=by
   rcases h' with h' | h'
   ·omega
   ·simpa using h'
  have hr:∀ i,k≤i→r.getD i 0=0:=fun i hi=>by simpa using h (i+1) (by omega)
  by_cases hk:k=0
  ·subst hk
   have:=znj r 0 hr (.inl rfl)
   have hx':x≠0:=by simpa using hx
   simp [cut,this,hx']
  ·have:=znj r k hr (.inr (by
    obtain ⟨m,rfl⟩:∃ m,k=m+1:=⟨k-1,by omega⟩
    simpa using hx))
   simp [cut,this,hk]
theorem zhD:∀ (l:List Int) (i:Nat),cut l≤i→l.getD i 0=0
 | [],i,_=>by simp
 | x::r,i,h=>by
  unfold cut at h
  split at h
  ·rename_i h0
   split at h
   ·rename_i hx
    cases i with
    | zero=>simpa using hx
    | succ i=>simpa using zhD r i (by omega)
   ·cases i with
    | zero=>omega
    | succ i=>simpa using zhD r i (by omega)
  ·cases i with
   | zero=>omega
   | succ i=>simpa using zhD r i (by omega)
theorem znk:∀ (l:List Int),0<cut l→l.getD (cut l-1) 0≠0
 | [],h=>by simp [cut] at h
 | x::r,h=>by
  by_cases h0:cut r=0
  ·by_cases hx:x=0
   ·simp [cut,h0,hx] at h
   ·simp [cut,h0,hx]
  ·have e:cut (x::r)=cut r+1:=by simp [cut,h0]
   have:=znk r (by omega)
   rw [e]
   obtain ⟨m,hm⟩:∃ m,cut r=m+1:=⟨cut r-1,by omega⟩
   rw [hm] at this ⊢
   simpa using this
def trimL (l:List Int):List Int:=l.take (cut l)
theorem zbo (l:List Int):(trimL l).length=cut l:=by
 have:=zfo l
 simp [trimL];omega
theorem zcF (l:List Int) (j:Nat):(trimL l).getD j 0=l.getD j 0:=by
 by_cases hj:j<cut l
 ·simp [trimL,List.getD,hj]
 ·rw [zas (by rw [zbo];omega),zhD l j (by omega)]
theorem zf0 {l:List Int} (h:0<(trimL l).length):(trimL l).getD ((trimL l).length-1) 0≠0:=by
 rw [zcF,zbo]
 rw [zbo] at h
 exact znk l h
def normL (l:List Int):List Int:=if zaa (trimL l) then trimL l else []
theorem zeQ {l:List Int} (h:zaa (trimL l)=true):normL l=trimL l:=by simp [normL,h]
theorem zpm {l:List Int} (h:zaa (trimL l)=false):normL l=[]:=by simp [normL,h]
def ziR (t n:Int):Bool:=decide (0≤t) && decide (t<12) && decide (1≤n) && decide (n≤1152921504606846976)
def zc5 (t n:Int):List Int:=if ziR t n then tab (t.toNat+1) (fun j=>if j=t.toNat then n else 0) else []
theorem zgG {t n:Int}:ziR t n=true↔(0≤t∧t<12)∧1≤n∧n≤1152921504606846976:=by
 simp [ziR,and_assoc]
theorem zhV {t n:Int} (h:ziR t n=true):zaa (zc5 t n)=true:=by
 have h':=zgG.1 h
 unfold zc5
 rw [if_pos h]
 refine zcx ?_ ?_ ?_
 ·rw [zaw];omega
 ·intro j hj
  rw [zaw] at hj
  rw [zd0 hj]
  split<;>omega
 ·intro _
  rw [zaw,zd0 (by omega),if_pos (by omega)]
  omega
def addT (a b:List Int):List Int:=tab (max a.length b.length) (fun j=>a.getD j 0+b.getD j 0)
def znl (a b:List Int):Bool:=(List.range (max a.length b.length)).all fun j=>decide (a.getD j 0+b.getD j 0≤1152921504606846976)
def zaz (a b:List Int):Bool:=zaa a && zaa b && znl a b
def zbp (a b:List Int):List Int:=if zaz a b then addT a b else []
theorem zeR {a b:List Int}:znl a b=true↔∀ j,j<max a.length b.length→a.getD j 0+b.getD j 0≤1152921504606846976:=by
 simp [znl,List.all_eq_true]
theorem zbR (a b:List Int):(addT a b).length=max a.length b.length:=zaw _ _
theorem zcG (a b:List Int) (j:Nat):(addT a b).getD j 0=a.getD j 0+b.getD j 0:=by
 by_cases hj:j<max a.length b.length
 ·exact zd0 hj
 ·rw [addT,zfZ (by omega),zas (l:=a) (by omega),zas (l:=b) (by omega)];rfl
theorem zpn {a b:List Int} (h:zaa a=false):zaz a b=false∧zbp a b=[]:=by
 have:zaz a b=false:=by simp [zaz,h]
 exact ⟨this,by simp [zbp,this]⟩
theorem zpo {a b:List Int} (h:zaa b=false):zaz a b=false∧zbp a b=[]:=by
 have:zaz a b=false:=by simp [zaz,h]
 exact ⟨this,by simp [zbp,this]⟩
theorem zgH {a b:List Int} {j:Nat} (hj:j<max a.length b.length) (h:1152921504606846976<a.getD j 0+b.getD j 0):zaz a b=false∧zbp a b=[]:=by
 have hf:znl a b=false:=by
  rw [←Bool.not_eq_true,zeR]
  intro hh
  have:=hh j hj
  omega
 have:zaz a b=false:=by simp [zaz,hf]
 exact ⟨this,by simp [zbp,this]⟩
theorem zfE {a b:List Int} (ha:zaa a=true) (hb:zaa b=true) (h:∀ j,j<max a.length b.length→a.getD j 0+b.getD j 0≤1152921504606846976):zaz a b=true∧zbp a b=addT a b:=by
 have:zaz a b=true:=by simp [zaz,ha,hb,zeR.2 h]
 exact ⟨this,by simp [zbp,this]⟩
def lex:List Int→List Int→Int
 | [],[]=>0
 | [],_::_=>-1
 | _::_,[]=>1
 | x::a,y::b=>if x<y then -1 else if y<x then 1 else lex a b
def sgn (x y:Int):Int:=if x<y then -1 else if y<x then 1 else 0
def orI (p q:Int):Int:=if p=0 then q else p
def cmpL (a b:List Int):Int:=if zaa a && zaa b then orI (sgn a.length b.length) (lex a b) else 0
theorem znm {a b:List Int} {k:Nat} (ha:k<a.length) (hb:k<b.length):lex (a.drop k) (b.drop k)=if a.getD k 0<b.getD k 0 then -1 else if b.getD k 0<a.getD k 0 then 1 else lex (a.drop (k+1)) (b.drop (k+1)):=by
 rw [List.drop_eq_getElem_cons ha,List.drop_eq_getElem_cons hb,zaY ha,zaY hb,lex]
theorem zsQ {a b:List Int} {k:Nat} (ha:a.length≤k) (hb:k<b.length):lex (a.drop k) (b.drop k) = -1:=by
 rw [List.drop_eq_nil_of_le ha,List.drop_eq_getElem_cons hb,lex]
theorem zrt {a b:List Int} {k:Nat} (ha:k<a.length) (hb:b.length≤k):lex (a.drop k) (b.drop k)=1:=by
 rw [List.drop_eq_nil_of_le hb,List.drop_eq_getElem_cons ha,lex]
theorem znn {a b:List Int} {k:Nat} (ha:a.length≤k) (hb:b.length≤k):lex (a.drop k) (b.drop k)=0:=by
 rw [List.drop_eq_nil_of_le hb,List.drop_eq_nil_of_le ha,lex]
theorem zpp:∀ a b:List Int,lex b a = - lex a b
 | [],[]=>by simp [lex]
 | [],_::_=>by simp [lex]
 | _::_,[]=>by simp [lex]
 | x::a,y::b=>by
  have:=zpp a b
  unfold lex
  by_cases h1:x<y
  ·rw [if_neg (by omega),if_pos h1,if_pos h1];rfl
  ·by_cases h2:y<x
   ·rw [if_pos h2,if_neg h1,if_pos h2]
   ·rw [if_neg h2,if_neg h1,if_neg h1,if_neg h2];exact this
theorem zno:∀ a b:List Int,lex a b=0↔a=b
 | [],[]=>by simp [lex]
 | [],_::_=>by simp [lex]
 | _::_,[]=>by simp [lex]
 | x::a,y::b=>by
  have:=zno a b
  unfold lex
  by_cases h1:x<y
  ·rw [if_pos h1];simp;intro h;omega
  ·by_cases h2:y<x
   ·rw [if_neg h1,if_pos h2];simp;intro h;omega
   ·rw [if_neg h1,if_neg h2,this]
    have:x=y:=by omega
    simp [this]
theorem zk8:∀ a b c:List Int,lex a b≤0→lex b c≤0→lex a c≤0
 | [],[],[],_,_=>by simp [lex]
 | [],[],_::_,_,_=>by simp [lex]
 | [],_::_,[],_,_=>by simp [lex]
 | [],_::_,_::_,_,_=>by simp [lex]
 | _::_,[],_,h,_=>by simp [lex] at h
 | _::_,_::_,[],_,h=>by simp [lex] at h
 | x::a,y::b,z::c,h1,h2=>by
  have ih:=zk8 a b c
  unfold lex at h1 h2 ⊢
  by_cases p1:x<y<;>by_cases p2:y<x<;>by_cases p3:y<z<;>by_cases p4:z<y<;>simp only [p1,p2,p3,p4,if_true,if_false] at h1 h2<;>first
   | omega
   | (rw [if_pos (by omega)];omega)
   | (rw [if_neg (by omega),if_neg (by omega)];exact ih h1 h2)
theorem zat (x y:Int):(x<y∧sgn x y = -1)∨(x=y∧sgn x y=0)∨(y<x∧sgn x y=1):=by
 unfold sgn
 by_cases h1:x<y
 ·simp [h1]
 ·by_cases h2:y<x
  ·simp [h1,h2]
  ·have:x=y:=by omega
   simp [this]
theorem zcg {a b:List Int} (ha:zaa a=true) (hb:zaa b=true):cmpL a b=orI (sgn a.length b.length) (lex a b):=by simp [cmpL,ha,hb]
theorem zj4 {a b:List Int} (ha:zaa a=false):cmpL a b=0:=by simp [cmpL,ha]
theorem zj5 {a b:List Int} (hb:zaa b=false):cmpL a b=0:=by simp [cmpL,hb]
section
variable {a b c:List Int}
theorem zgI (ha:zaa a=true) (hb:zaa b=true):cmpL b a = - cmpL a b:=by
 rw [zcg ha hb,zcg hb ha]
 have:=zpp a b
 unfold orI
 rcases zat a.length b.length with ⟨h,e⟩ | ⟨h,e⟩ | ⟨h,e⟩<;>rcases zat b.length a.length with ⟨h',e'⟩ | ⟨h',e'⟩ | ⟨h',e'⟩<;>rw [e,e']<;>first | omega | rfl | simpa using this
theorem zbZ (ha:zaa a=true) (hb:zaa b=true):cmpL a b=0↔a=b:=by
 rw [zcg ha hb]
 have:=zno a b
 unfold orI
 rcases zat a.length b.length with ⟨h,e⟩ | ⟨h,e⟩ | ⟨h,e⟩<;>rw [e]
 ·simp;rintro rfl;omega
 ·simpa using this
 ·simp;rintro rfl;omega
theorem zpq (ha:zaa a=true) (hb:zaa b=true) (hc:zaa c=true) (h1:cmpL a b≤0) (h2:cmpL b c≤0):cmpL a c≤0:=by
 rw [zcg ha hb] at h1
 rw [zcg hb hc] at h2
 rw [zcg ha hc]
 have ih:=zk8 a b c
 unfold orI at *
 rcases zat a.length b.length with ⟨h,e⟩ | ⟨h,e⟩ | ⟨h,e⟩<;>rcases zat b.length c.length with ⟨h',e'⟩ | ⟨h',e'⟩ | ⟨h',e'⟩<;>rcases zat a.length c.length with ⟨h'',e''⟩ | ⟨h'',e''⟩ | ⟨h'',e''⟩<;>
  rw [e] at h1<;>rw [e'] at h2<;>rw [e'']<;>simp at h1 h2 ⊢<;>first | omega | exact ih h1 h2
end
structure Small (m:Int) (l:List Int):Prop where
 right:zaa l=true
 len:l.length≤12
 top:∀ j,l.getD j 0≤m
section
variable {m k:Int} {x y z:List Int}
theorem Small.pos (h:Small m x) (j:Nat):0≤x.getD j 0:=(zae h.right j).1
theorem Small.add (hx:Small m x) (hy:Small k y) (hm:m+k≤1000000000000000):zaz x y=true∧zbp x y=addT x y∧Small (m+k) (addT x y):=by
 have hle:∀ j,x.getD j 0+y.getD j 0≤m+k:=fun j=>by have:=hx.top j;have:=hy.top j;omega
 have A:=zfE hx.right hy.right (fun j _=>by have:=hle j;omega)
 have hl:(addT x y).length≤12:=by rw [zbR];have:=hx.len;have:=hy.len;omega
 refine ⟨A.1,A.2,?_,hl,fun j=>by rw [zcG];exact hle j⟩
 refine zcx (by omega) (fun j _=>?_) (fun h0=>?_)
 ·rw [zcG]
  have:=hx.pos j;have:=hy.pos j;have:=hle j
  omega
 ·rw [zcG]
  have p1:=hx.pos ((addT x y).length-1)
  have p2:=hy.pos ((addT x y).length-1)
  rw [zbR] at h0 p1 p2 ⊢
  by_cases h:x.length≤y.length
  ·have e:max x.length y.length=y.length:=by omega
   rw [e] at h0 p1 p2 ⊢
   have:=za1 hy.right (by omega)
   omega
  ·have e:max x.length y.length=x.length:=by omega
   rw [e] at h0 p1 p2 ⊢
   have:=za1 hx.right (by omega)
   omega
end
end Go.Proofs.YtmnkjekjknhhjaaGreatDoor
namespace Go.Proofs.YtmnkjekjknhhjaaGreatDoor
def zdz (b:List Int):List (List Int)→List (List Int)
 | []=>[b]
 | x::r=>if cmpL x b<0 then x::zdz b r else if cmpL x b=0 then x::r else b::x::r
def zdC:List (List Int)→Bool
 | []=>true
 | x::r=>zaa x && decide (x≠[]) && (match r with | []=>true | y::_=>decide (cmpL x y<0)) && zdC r
def zd7 (l:List (List Int)):Prop:=∀ x∈l,zaa x=true∧x≠[]
def zk9 (l:List (List Int)):Prop:=zd7 l∧l.Pairwise (fun x y=>cmpL x y<0)
theorem zb5 {a b c:List Int} (ha:zaa a=true) (hb:zaa b=true) (hc:zaa c=true) (h1:cmpL a b<0) (h2:cmpL b c<0):cmpL a c<0:=by
 have h3:=zpq ha hb hc (by omega) (by omega)
 by_cases h:cmpL a c=0
 ·have e:=(zbZ ha hc).1 h
  subst e
  have:=zgI ha hb
  omega
 ·omega
theorem znp {a:List Int} (ha:zaa a=true):cmpL a a=0:=(zbZ ha ha).2 rfl
theorem zhW:∀ {l:List (List Int)},zdC l=true↔zk9 l
 | []=>by simp [zdC,zk9,zd7]
 | [x]=>by simp [zdC,zk9,zd7]
 | x::y::r=>by
  have ih:=zhW (l:=y::r)
  have e:zdC (x::y::r)=(zaa x && decide (x≠[]) && decide (cmpL x y<0) && zdC (y::r)):=rfl
  rw [e,Bool.and_eq_true,Bool.and_eq_true,Bool.and_eq_true,decide_eq_true_eq,decide_eq_true_eq,ih]
  constructor
  ·rintro ⟨⟨⟨h1,h2⟩,h3⟩,g,p⟩
   refine ⟨?_,List.pairwise_cons.2 ⟨?_,p⟩⟩
   ·intro z hz
    rcases List.mem_cons.1 hz with rfl | hz
    ·exact ⟨h1,h2⟩
    ·exact g z hz
   ·intro z hz
    rcases List.mem_cons.1 hz with rfl | hz'
    ·exact h3
    ·exact zb5 h1 (g y (by simp)).1 (g z hz).1 h3 ((List.pairwise_cons.1 p).1 z hz')
  ·rintro ⟨g,p⟩
   have p':=List.pairwise_cons.1 p
   exact ⟨⟨⟨(g x (by simp)).1,(g x (by simp)).2⟩,p'.1 y (by simp)⟩,fun z hz=>g z (List.mem_cons_of_mem _ hz),p'.2⟩
theorem zmt {b:List Int} (hb:zaa b=true):∀ {l:List (List Int)},zd7 l→∀ z,z∈zdz b l↔z=b∨z∈l
 | [],_,z=>by simp [zdz]
 | x::r,g,z=>by
  have ih:=zmt hb (l:=r) (fun y hy=>g y (List.mem_cons_of_mem _ hy)) z
  unfold zdz
  split
  ·rw [List.mem_cons,ih,List.mem_cons]
   constructor
   ·rintro (h | h | h)<;>simp [h]
   ·rintro (h | h | h)<;>simp [h]
  ·split
   ·next h=>
    have e:x=b:=(zbZ (g x (by simp)).1 hb).1 h
    subst e
    simp
   ·simp
theorem zj6 {b:List Int} (hb:zaa b=true) (hn:b≠[]):∀ {l:List (List Int)},zk9 l→zk9 (zdz b l)
 | [],_=>by
  refine ⟨fun z hz=>?_,by simp [zdz]⟩
  simp [zdz] at hz
  exact hz ▸ ⟨hb,hn⟩
 | x::r,⟨g,p⟩=>by
  have gr:zd7 r:=fun y hy=>g y (List.mem_cons_of_mem _ hy)
  have p':=List.pairwise_cons.1 p
  have ih:=zj6 hb hn (l:=r) ⟨gr,p'.2⟩
  have hx:=g x (by simp)
  unfold zdz
  split
  ·next h=>
   refine ⟨fun z hz=>?_,List.pairwise_cons.2 ⟨fun z hz=>?_,ih.2⟩⟩
   ·rcases List.mem_cons.1 hz with rfl | hz
    ·exact hx
    ·exact ih.1 z hz
   ·rcases (zmt hb gr z).1 hz with rfl | hz
    ·exact h
    ·exact p'.1 z hz
  ·split
   ·exact ⟨g,p⟩
   ·next h1 h2=>
    have h3:cmpL b x<0:=by
     have:=zgI hx.1 hb
     omega
    refine ⟨fun z hz=>?_,List.pairwise_cons.2 ⟨fun z hz=>?_,p⟩⟩
    ·rcases List.mem_cons.1 hz with rfl | hz
     ·exact ⟨hb,hn⟩
     ·exact g z hz
    ·rcases List.mem_cons.1 hz with rfl | hz'
     ·exact h3
     ·exact zb5 hb hx.1 (g z hz).1 h3 (p'.1 z hz')
theorem znq:∀ {a b:List (List Int)},zk9 a→zk9 b→(∀ z,z∈a↔z∈b)→a=b
 | [],[],_,_,_=>rfl
 | [],y::_,_,_,h=>by have:=(h y).2 (by simp);simp at this
 | x::_,[],_,_,h=>by have:=(h x).1 (by simp);simp at this
 | x::r,y::s,⟨g,p⟩,⟨k,q⟩,h=>by
  have p':=List.pairwise_cons.1 p
  have q':=List.pairwise_cons.1 q
  have hx:=g x (by simp)
  have hy:=k y (by simp)
  have e:x=y:=by
   rcases List.mem_cons.1 ((h x).1 (by simp)) with e | hx'
   ·exact e
   ·rcases List.mem_cons.1 ((h y).2 (by simp)) with e | hy'
    ·exact e.symm
    ·have h1:=q'.1 x hx'
     have h2:=p'.1 y hy'
     have:=zgI hx.1 hy.1
     omega
  subst e
  have:r=s:=by
   apply znq ⟨fun z hz=>g z (List.mem_cons_of_mem _ hz),p'.2⟩ ⟨fun z hz=>k z (List.mem_cons_of_mem _ hz),q'.2⟩
   intro z
   constructor
   ·intro hz
    rcases List.mem_cons.1 ((h z).1 (List.mem_cons_of_mem _ hz)) with rfl | hz'
    ·have:=p'.1 z hz
     rw [znp hx.1] at this
     omega
    ·exact hz'
   ·intro hz
    rcases List.mem_cons.1 ((h z).2 (List.mem_cons_of_mem _ hz)) with rfl | hz'
    ·have:=q'.1 z hz
     rw [znp hx.1] at this
     omega
    ·exact hz'
  rw [this]
def zaj (l ps:List (List Int)):List (List Int):=ps.foldl (fun l b=>zdz b l) l
theorem zdN:∀ {ps l:List (List Int)},zd7 ps→zk9 l→zk9 (zaj l ps)
 | [],_,_,h=>h
 | b::r,l,g,h=>zdN (ps:=r) (l:=zdz b l) (fun z hz=>g z (List.mem_cons_of_mem _ hz)) (zj6 (g b (by simp)).1 (g b (by simp)).2 h)
theorem zeS:∀ {ps l:List (List Int)},zd7 ps→zk9 l→∀ z,z∈zaj l ps↔z∈l∨z∈ps
 | [],_,_,_,z=>by simp [zaj]
 | b::r,l,g,h,z=>by
  have ih:=zeS (ps:=r) (l:=zdz b l) (fun z hz=>g z (List.mem_cons_of_mem _ hz)) (zj6 (g b (by simp)).1 (g b (by simp)).2 h) z
  have e:zaj l (b::r)=zaj (zdz b l) r:=rfl
  rw [e,ih,zmt (g b (by simp)).1 h.1,List.mem_cons]
  constructor
  ·rintro ((h | h) | h)<;>simp [h]
  ·rintro (h | h | h)<;>simp [h]
theorem zhE:zk9 []:=⟨by simp [zd7],.nil⟩
theorem zon {ps:List (List Int)} (h:zk9 ps):zaj [] ps=ps:=
 znq (zdN h.1 zhE) h (fun z=>by rw [zeS h.1 zhE];simp)
theorem zj7 (b:List Int):∀ l:List (List Int),(zdz b l).length≤l.length+1
 | []=>by simp [zdz]
 | x::r=>by
  have:=zj7 b r
  unfold zdz
  split
  ·simp only [List.length_cons];omega
  ·split<;>simp only [List.length_cons]<;>omega
theorem zcC:∀ ps l:List (List Int),(zaj l ps).length≤l.length+ps.length
 | [],l=>by simp [zaj]
 | b::r,l=>by
  have h1:=zcC r (zdz b l)
  have h2:=zj7 b l
  have e:zaj l (b::r)=zaj (zdz b l) r:=rfl
  rw [e];simp only [List.length_cons];omega
structure Lin where
 base:List Int
 ps:List (List Int)
 deriving DecidableEq
def rightLin (x:Lin):Bool:=zaa x.base && zdC x.ps
def zb0 (x:Lin):Bool:=rightLin x && x.ps.isEmpty
theorem zai {x:Lin}:rightLin x=true↔zaa x.base=true∧zk9 x.ps:=by
 simp [rightLin,zhW]
def zfg (b:List Int):Bool:=(normL b).isEmpty && b.any (fun n=>decide (n≠0))
def zmi (b:List Int) (ps:List (List Int)):Bool:=!zfg b && ps.all (fun p=>!zfg p)
def zaN (ps:List (List Int)):List (List Int):=(ps.map normL).filter (fun p=>decide (p≠[]))
def zbh (b:List Int) (ps:List (List Int)):Lin:=if zmi b ps then ⟨normL b,zaj [] (zaN ps)⟩ else ⟨[],[]⟩
theorem zgJ (b:List Int):zaa (normL b)=true:=by
 unfold normL
 split
 ·assumption
 ·decide
theorem zfF (ps:List (List Int)):zd7 (zaN ps):=by
 intro z hz
 simp only [zaN,List.mem_filter,List.mem_map,decide_eq_true_eq] at hz
 obtain ⟨⟨p,_,rfl⟩,hn⟩:=hz
 exact ⟨zgJ p,hn⟩
theorem znr (b:List Int) (ps:List (List Int)):rightLin (zbh b ps)=true:=by
 unfold zbh
 split
 ·exact zai.2 ⟨zgJ b,zdN (zfF ps) zhE⟩
 ·decide
def za6 (x y:Lin):Bool:=rightLin x && rightLin y && zaz x.base y.base
def zaB (x y:Lin):Lin:=if za6 x y then ⟨addT x.base y.base,zaj (zaj [] x.ps) y.ps⟩ else ⟨[],[]⟩
theorem zfG {x y:Lin} (h:za6 x y=true):zaB x y=⟨addT x.base y.base,zaj (zaj [] x.ps) y.ps⟩:=by unfold zaB;rw [if_pos h]
theorem zpr {x y:Lin} (h:za6 x y=false):zaB x y=⟨[],[]⟩:=by unfold zaB;rw [h];rfl
theorem zsn {x y:Lin} (hx:zk9 x.ps) (hy:zk9 y.ps):zk9 (zaj (zaj [] x.ps) y.ps)∧∀ z,z∈zaj (zaj [] x.ps) y.ps↔z∈x.ps∨z∈y.ps:=by
 have h:=zon hx
 rw [h]
 exact ⟨zdN hy.1 hx,zeS hy.1 hx⟩
def cmpPs:List (List Int)→List (List Int)→Int
 | x::r,y::s=>orI (cmpL x y) (cmpPs r s)
 | _,_=>0
def zak (x y:Lin):Int:=
 if rightLin x && rightLin y then orI (cmpL x.base y.base) (orI (sgn x.ps.length y.ps.length) (cmpPs x.ps y.ps)) else 0
theorem zla:∀ {a b:List (List Int)},zd7 a→zd7 b→cmpPs b a = - cmpPs a b
 | [],[],_,_=>rfl
 | [],_::_,_,_=>rfl
 | _::_,[],_,_=>rfl
 | x::r,y::s,g,k=>by
  have ih:=zla (a:=r) (b:=s) (fun z hz=>g z (List.mem_cons_of_mem _ hz)) (fun z hz=>k z (List.mem_cons_of_mem _ hz))
  have h:=zgI (g x (by simp)).1 (k y (by simp)).1
  simp only [cmpPs,orI,h,ih]
  by_cases e:cmpL x y=0
  ·simp [e]
  ·rw [if_neg e,if_neg (by omega)]
theorem zgK:∀ {a b:List (List Int)},zd7 a→zd7 b→a.length=b.length→(cmpPs a b=0↔a=b)
 | [],[],_,_,_=>by simp [cmpPs]
 | [],_::_,_,_,h=>by simp at h
 | _::_,[],_,_,h=>by simp at h
 | x::r,y::s,g,k,h=>by
  have ih:=zgK (a:=r) (b:=s) (fun z hz=>g z (List.mem_cons_of_mem _ hz)) (fun z hz=>k z (List.mem_cons_of_mem _ hz)) (by simpa using h)
  have hz:=zbZ (g x (by simp)).1 (k y (by simp)).1
  simp only [cmpPs,orI,List.cons.injEq]
  by_cases e:cmpL x y=0
  ·rw [if_pos e,ih]
   exact ⟨fun h=>⟨hz.1 e,h⟩,fun h=>h.2⟩
  ·rw [if_neg e]
   constructor
   ·intro h;exact absurd h e
   ·rintro ⟨rfl,_⟩;exact hz.2 rfl
theorem zhX:∀ {a b c:List (List Int)},zd7 a→zd7 b→zd7 c→a.length=b.length→b.length=c.length→cmpPs a b≤0→cmpPs b c≤0→cmpPs a c≤0
 | [],_,_,_,_,_,_,_,_,_=>by simp [cmpPs]
 | _::_,[],_,_,_,_,h,_,_,_=>by simp at h
 | _::_,_::_,[],_,_,_,_,h,_,_=>by simp at h
 | x::r,y::s,z::t,g,k,m,h,h',h1,h2=>by
  have ih:=zhX (a:=r) (b:=s) (c:=t) (fun z hz=>g z (List.mem_cons_of_mem _ hz)) (fun z hz=>k z (List.mem_cons_of_mem _ hz)) (fun z hz=>m z (List.mem_cons_of_mem _ hz)) (by simpa using h) (by simpa using h')
  have hx:=(g x (by simp)).1
  have hy:=(k y (by simp)).1
  have hz:=(m z (by simp)).1
  simp only [cmpPs,orI] at h1 h2 ⊢
  by_cases e1:cmpL x y=0
  ·rw [if_pos e1] at h1
   have e:=(zbZ hx hy).1 e1
   subst e
   by_cases e2:cmpL x z=0
   ·rw [if_pos e2] at h2 ⊢
    exact ih h1 h2
   ·rw [if_neg e2] at h2 ⊢
    exact h2
  ·rw [if_neg e1] at h1
   by_cases e2:cmpL y z=0
   ·have e:=(zbZ hy hz).1 e2
    subst e
    rw [if_neg e1]
    exact h1
   ·rw [if_neg e2] at h2
    have:=zb5 hx hy hz (by omega) (by omega)
    rw [if_neg (by omega)]
    omega
section
variable {x y z:Lin}
theorem zjb (hx:rightLin x=true) (hy:rightLin y=true):zak y x = - zak x y:=by
 have X:=zai.1 hx
 have Y:=zai.1 hy
 have h1:=zgI X.1 Y.1
 have h2:=zla X.2.1 Y.2.1
 simp only [zak,hx,hy,Bool.and_self,if_true,orI,h1,h2]
 rcases zat x.ps.length y.ps.length with ⟨_,e⟩ | ⟨_,e⟩ | ⟨_,e⟩<;>rcases zat y.ps.length x.ps.length with ⟨_,e'⟩ | ⟨_,e'⟩ | ⟨_,e'⟩<;>rw [e,e']<;>
  first
   | (exfalso;omega)
   | (by_cases c:cmpL x.base y.base=0
      ·simp [c]
      ·rw [if_neg c,if_neg (by omega)])
theorem zhY (hx:rightLin x=true) (hy:rightLin y=true):zak x y=0↔x=y:=by
 have X:=zai.1 hx
 have Y:=zai.1 hy
 have h1:=zbZ X.1 Y.1
 simp only [zak,hx,hy,Bool.and_self,if_true,orI]
 constructor
 ·intro h
  by_cases c:cmpL x.base y.base=0
  ·rw [if_pos c] at h
   rcases zat x.ps.length y.ps.length with ⟨_,e⟩ | ⟨e',e⟩ | ⟨_,e⟩
   ·rw [e] at h;simp at h
   ·rw [e,if_pos rfl] at h
    have h3:=(zgK X.2.1 Y.2.1 (by omega)).1 h
    cases x;cases y
    simp only [Lin.mk.injEq]
    exact ⟨h1.1 c,h3⟩
   ·rw [e] at h;simp at h
  ·rw [if_neg c] at h
   exact absurd h c
 ·rintro rfl
  rw [if_pos (h1.2 rfl)]
  rcases zat x.ps.length x.ps.length with ⟨e',e⟩ | ⟨e',e⟩ | ⟨e',e⟩
  ·omega
  ·rw [e,if_pos rfl]
   exact (zgK X.2.1 Y.2.1 rfl).2 rfl
  ·omega
theorem zlb (hx:rightLin x=true) (hy:rightLin y=true) (hz:rightLin z=true) (h1:zak x y≤0) (h2:zak y z≤0):zak x z≤0:=by
 have X:=zai.1 hx
 have Y:=zai.1 hy
 have Z:=zai.1 hz
 simp only [zak,hx,hy,hz,Bool.and_self,if_true,orI] at h1 h2 ⊢
 by_cases c1:cmpL x.base y.base=0
 ·rw [if_pos c1] at h1
  have e:=(zbZ X.1 Y.1).1 c1
  rw [←e] at h2
  by_cases c2:cmpL x.base z.base=0
  ·rw [if_pos c2] at h2 ⊢
   have T:=@zhX x.ps y.ps z.ps X.2.1 Y.2.1 Z.2.1
   rcases zat x.ps.length y.ps.length with ⟨l1,e1⟩ | ⟨l1,e1⟩ | ⟨l1,e1⟩<;>rcases zat y.ps.length z.ps.length with ⟨l2,e2⟩ | ⟨l2,e2⟩ | ⟨l2,e2⟩<;>rcases zat x.ps.length z.ps.length with ⟨l3,e3⟩ | ⟨l3,e3⟩ | ⟨l3,e3⟩<;>
    rw [e1] at h1<;>rw [e2] at h2<;>rw [e3]<;>
    first
     | (exfalso;omega)
     | (simp at h1;done)
     | (simp at h2;done)
     | (simp;done)
     | (rw [if_pos rfl] at h1 h2 ⊢;exact T (by omega) (by omega) h1 h2)
  ·rw [if_neg c2] at h2 ⊢
   exact h2
 ·rw [if_neg c1] at h1
  by_cases c2:cmpL y.base z.base=0
  ·rw [←(zbZ Y.1 Z.1).1 c2,if_neg c1]
   exact h1
  ·rw [if_neg c2] at h2
   have:=zb5 X.1 Y.1 Z.1 (by omega) (by omega)
   rw [if_neg (by omega)]
   omega
theorem zps (h:za6 x y=true) (ha:zaa (addT x.base y.base)=true):rightLin (zaB x y)=true:=by
 have h':=h
 simp only [za6,Bool.and_eq_true] at h'
 unfold zaB
 rw [if_pos h]
 exact zai.2 ⟨ha,(zsn (zai.1 h'.1.1).2 (zai.1 h'.1.2).2).1⟩
theorem zmu (h:za6 x y=true):(zaB x y).ps.length≤x.ps.length+y.ps.length:=by
 unfold zaB
 rw [if_pos h]
 have h1:=zcC y.ps (zaj [] x.ps)
 have h2:=zcC x.ps []
 simp only [List.length_nil] at h2
 show (zaj (zaj [] x.ps) y.ps).length≤_
 omega
end
end Go.Proofs.YtmnkjekjknhhjaaGreatDoor
namespace Go.Proofs.YtmnkjekjknhhjaaGreatDoor
theorem zej {a b c:Lin} (ha:rightLin a=true) (hb:rightLin b=true) (hc:rightLin c=true) (h1:zak a b<0) (h2:zak b c<0):zak a c<0:=by
 have h3:=zlb ha hb hc (by omega) (by omega)
 by_cases h:zak a c=0
 ·have e:=(zhY ha hc).1 h
  subst e
  have:=zjb ha hb
  omega
 ·omega
def zf1 (b:Lin):List Lin→List Lin
 | []=>[b]
 | x::r=>if zak x b<0 then x::zf1 b r else if zak x b=0 then x::r else b::x::r
def zam:List Lin→Bool
 | []=>true
 | x::r=>rightLin x && (match r with | []=>true | y::_=>decide (zak x y<0)) && zam r
def zdO (l:List Lin):Prop:=∀ x∈l,rightLin x=true
def zcH (l:List Lin):Prop:=zdO l∧l.Pairwise (fun x y=>zak x y<0)
theorem zan:∀ {l:List Lin},zam l=true↔zcH l
 | []=>by simp [zam,zcH,zdO]
 | [x]=>by simp [zam,zcH,zdO]
 | x::y::r=>by
  have ih:=zan (l:=y::r)
  have e:zam (x::y::r)=(rightLin x && decide (zak x y<0) && zam (y::r)):=rfl
  rw [e,Bool.and_eq_true,Bool.and_eq_true,decide_eq_true_eq,ih]
  constructor
  ·rintro ⟨⟨h1,h3⟩,g,p⟩
   refine ⟨?_,List.pairwise_cons.2 ⟨?_,p⟩⟩
   ·intro z hz
    rcases List.mem_cons.1 hz with rfl | hz
    ·exact h1
    ·exact g z hz
   ·intro z hz
    rcases List.mem_cons.1 hz with rfl | hz'
    ·exact h3
    ·exact zej h1 (g y (by simp)) (g z hz) h3 ((List.pairwise_cons.1 p).1 z hz')
  ·rintro ⟨g,p⟩
   have p':=List.pairwise_cons.1 p
   exact ⟨⟨g x (by simp),p'.1 y (by simp)⟩,fun z hz=>g z (List.mem_cons_of_mem _ hz),p'.2⟩
theorem zj8 {b:Lin} (hb:rightLin b=true):∀ {l:List Lin},zdO l→∀ z,z∈zf1 b l↔z=b∨z∈l
 | [],_,z=>by simp [zf1]
 | x::r,g,z=>by
  have ih:=zj8 hb (l:=r) (fun y hy=>g y (List.mem_cons_of_mem _ hy)) z
  unfold zf1
  split
  ·rw [List.mem_cons,ih,List.mem_cons]
   constructor
   ·rintro (h | h | h)<;>simp [h]
   ·rintro (h | h | h)<;>simp [h]
  ·split
   ·next h=>
    have e:x=b:=(zhY (g x (by simp)) hb).1 h
    subst e
    simp
   ·simp
theorem zhZ {b:Lin} (hb:rightLin b=true):∀ {l:List Lin},zcH l→zcH (zf1 b l)
 | [],_=>by
  refine ⟨fun z hz=>?_,by simp [zf1]⟩
  simp [zf1] at hz
  exact hz ▸ hb
 | x::r,⟨g,p⟩=>by
  have gr:zdO r:=fun y hy=>g y (List.mem_cons_of_mem _ hy)
  have p':=List.pairwise_cons.1 p
  have ih:=zhZ hb (l:=r) ⟨gr,p'.2⟩
  have hx:=g x (by simp)
  unfold zf1
  split
  ·next h=>
   refine ⟨fun z hz=>?_,List.pairwise_cons.2 ⟨fun z hz=>?_,ih.2⟩⟩
   ·rcases List.mem_cons.1 hz with rfl | hz
    ·exact hx
    ·exact ih.1 z hz
   ·rcases (zj8 hb gr z).1 hz with rfl | hz
    ·exact h
    ·exact p'.1 z hz
  ·split
   ·exact ⟨g,p⟩
   ·next h1 h2=>
    have h3:zak b x<0:=by
     have:=zjb hx hb
     omega
    refine ⟨fun z hz=>?_,List.pairwise_cons.2 ⟨fun z hz=>?_,p⟩⟩
    ·rcases List.mem_cons.1 hz with rfl | hz
     ·exact hb
     ·exact g z hz
    ·rcases List.mem_cons.1 hz with rfl | hz'
     ·exact h3
     ·exact zej hb hx (g z hz) h3 (p'.1 z hz')
def zaI (l ps:List Lin):List Lin:=ps.foldl (fun l b=>zf1 b l) l
theorem zek:∀ {ps l:List Lin},zdO ps→zcH l→zcH (zaI l ps)
 | [],_,_,h=>h
 | b::r,l,g,h=>zek (ps:=r) (l:=zf1 b l) (fun z hz=>g z (List.mem_cons_of_mem _ hz)) (zhZ (g b (by simp)) h)
theorem zfH:∀ {ps l:List Lin},zdO ps→zcH l→∀ z,z∈zaI l ps↔z∈l∨z∈ps
 | [],_,_,_,z=>by simp [zaI]
 | b::r,l,g,h,z=>by
  have ih:=zfH (ps:=r) (l:=zf1 b l) (fun z hz=>g z (List.mem_cons_of_mem _ hz)) (zhZ (g b (by simp)) h) z
  have e:zaI l (b::r)=zaI (zf1 b l) r:=rfl
  rw [e,ih,zj8 (g b (by simp)) h.1,List.mem_cons]
  constructor
  ·rintro ((h | h) | h)<;>simp [h]
  ·rintro (h | h | h)<;>simp [h]
theorem zcI:zcH []:=⟨by simp [zdO],.nil⟩
theorem zns (b:Lin):∀ l:List Lin,(zf1 b l).length≤l.length+1
 | []=>by simp [zf1]
 | x::r=>by
  have:=zns b r
  unfold zf1
  split
  ·simp only [List.length_cons];omega
  ·split<;>simp only [List.length_cons]<;>omega
theorem zfI:∀ ps l:List Lin,(zaI l ps).length≤l.length+ps.length
 | [],l=>by simp [zaI]
 | b::r,l=>by
  have h1:=zfI r (zf1 b l)
  have h2:=zns b l
  have e:zaI l (b::r)=zaI (zf1 b l) r:=rfl
  rw [e];simp only [List.length_cons];omega
theorem zgX (l ps:List Lin) (b:Lin):zaI l (ps++[b])=zf1 b (zaI l ps):=by
 unfold zaI;rw [List.foldl_append];rfl
def ofSOk (l:List Lin):Bool:=l.all rightLin
def ofS (l:List Lin):List Lin:=if ofSOk l then zaI [] l else []
def zmv:List Lin:=[⟨[],[]⟩]
def zaT (a b:List Lin):List Lin:=if zam a && zam b then zaI [] (a++b) else []
def zh0 (a b:List Lin):List (Lin×Lin):=a.flatMap (fun x=>b.map (fun y=>(x,y)))
def zbD (a b:List Lin):Bool:=(zh0 a b).all (fun p=>za6 p.1 p.2)
def zbs (a b:List Lin):List Lin:=(zh0 a b).map (fun p=>zaB p.1 p.2)
theorem zh1 {l:List Lin}:ofSOk l=true↔zdO l:=by simp [ofSOk,zdO]
theorem zmw {l:List Lin} (h:zdO l):ofS l=zaI [] l:=by unfold ofS;rw [if_pos (zh1.2 h)]
theorem znt {a b:List Lin} (ha:zdO a) (hb:zdO b):zdO (a++b):=fun z hz=>by
 rcases List.mem_append.1 hz with hz | hz
 ·exact ha z hz
 ·exact hb z hz
theorem zf2 {a b:List Lin} (ha:zcH a) (hb:zcH b):zcH (zaT a b)∧(∀ z,z∈zaT a b↔z∈a∨z∈b)∧(zaT a b).length≤a.length+b.length:=by
 have e:zaT a b=zaI [] (a++b):=by unfold zaT;rw [zan.2 ha,zan.2 hb];rfl
 have g:=znt ha.1 hb.1
 rw [e]
 refine ⟨zek g zcI,fun z=>by rw [zfH g zcI];simp,?_⟩
 have:=zfI (a++b) []
 simp only [List.length_nil,List.length_append] at this
 omega
theorem zb1 {a b:List Lin} {p:Lin×Lin}:p∈zh0 a b↔p.1∈a∧p.2∈b:=by
 obtain ⟨x,y⟩:=p
 simp only [zh0,List.mem_flatMap,List.mem_map,Prod.mk.injEq]
 constructor
 ·rintro ⟨x',h1,y',h2,rfl,rfl⟩;exact ⟨h1,h2⟩
 ·rintro ⟨h1,h2⟩;exact ⟨x,h1,y,h2,rfl,rfl⟩
theorem znu:∀ (a b:List Lin),(zh0 a b).length=a.length*b.length
 | [],b=>by simp [zh0]
 | x::r,b=>by
  have e:zh0 (x::r) b=b.map (fun y=>(x,y))++zh0 r b:=rfl
  rw [e,List.length_append,List.length_map,znu r b,List.length_cons,Nat.add_mul];omega
theorem zj9 {a b:List Lin} {z:Lin}:z∈zbs a b↔∃ x∈a,∃ y∈b,z=zaB x y:=by
 simp only [zbs,List.mem_map]
 constructor
 ·rintro ⟨p,hp,rfl⟩;exact ⟨p.1,(zb1.1 hp).1,p.2,(zb1.1 hp).2,rfl⟩
 ·rintro ⟨x,hx,y,hy,rfl⟩;exact ⟨(x,y),zb1.2 ⟨hx,hy⟩,rfl⟩
theorem zeT {a b:List Int} (h:zaz a b=true):zaa (addT a b)=true:=by
 simp only [zaz,Bool.and_eq_true] at h
 obtain ⟨⟨ha,hb⟩,hf⟩:=h
 have la:=(zac.1 ha).1
 have lb:=(zac.1 hb).1
 refine zcx (by rw [zbR];omega) (fun j hj=>?_) (fun hp=>?_)
 ·rw [zbR] at hj
  rw [zcG]
  have h1:=zae ha j
  have h2:=zae hb j
  have h3:=zeR.1 hf j hj
  omega
 ·rw [zbR] at hp ⊢
  rw [zcG]
  have h1:=zae ha (max a.length b.length-1)
  have h2:=zae hb (max a.length b.length-1)
  by_cases hab:b.length≤a.length
  ·have e:max a.length b.length=a.length:=by omega
   have h3:=za1 ha (by omega)
   rw [e] at h1 h2 ⊢
   omega
  ·have e:max a.length b.length=b.length:=by omega
   have h3:=za1 hb (by omega)
   rw [e] at h1 h2 ⊢
   omega
theorem zgY {x y:Lin} (h:za6 x y=true):rightLin (zaB x y)=true:=by
 have h':=h
 simp only [za6,Bool.and_eq_true] at h'
 exact zps h (zeT h'.2)
theorem zlc {a b:List Lin} (h:zbD a b=true):zdO (zbs a b):=fun z hz=>by
 obtain ⟨x,hx,y,hy,rfl⟩:=zj9.1 hz
 have:=List.all_eq_true.1 h (x,y) (zb1.2 ⟨hx,hy⟩)
 exact zgY this
def zmj (a b:List Lin):List Lin:=zaI [] (zbs a b)
theorem zhF {a b:List Lin} (h:zbD a b=true):zcH (zmj a b)∧(∀ z,z∈zmj a b↔∃ x∈a,∃ y∈b,z=zaB x y)∧(zmj a b).length≤a.length*b.length:=by
 have g:=zlc h
 refine ⟨zek g zcI,fun z=>by unfold zmj;rw [zfH g zcI];simp [zj9],?_⟩
 have:=zfI (zbs a b) []
 simp only [List.length_nil,zbs,List.length_map,znu] at this
 unfold zmj zbs
 omega
structure Trim (m:Int) (k:Nat) (x:Lin):Prop where
 right:rightLin x=true
 base:Small m x.base
 few:x.ps.length≤k
theorem Trim.cat {m m':Int} {k k':Nat} {x y:Lin} (hx:Trim m k x) (hy:Trim m' k' y) (h:m+m'≤1000000000000000):za6 x y=true∧Trim (m+m') (k+k') (zaB x y):=by
 have A:=hx.base.add hy.base h
 have hc:za6 x y=true:=by simp [za6,hx.right,hy.right,A.1]
 have e:(zaB x y).base=addT x.base y.base:=by rw [zfG hc]
 refine ⟨hc,zgY hc,by rw [e];exact A.2.2,?_⟩
 have:=zmu hc
 have:=hx.few
 have:=hy.few
 omega
structure TrimS (m:Int) (k n:Nat) (s:List Lin):Prop where
 rise:zcH s
 each:∀ x∈s,Trim m k x
 few:s.length≤n
theorem TrimS.union {m:Int} {k n n':Nat} {s t:List Lin} (hs:TrimS m k n s) (ht:TrimS m k n' t):TrimS m k (n+n') (zaT s t):=by
 obtain ⟨h1,h2,h3⟩:=zf2 hs.rise ht.rise
 refine ⟨h1,fun x hx=>?_,by have:=hs.few;have:=ht.few;omega⟩
 rcases (h2 x).1 hx with hx | hx
 ·exact hs.each x hx
 ·exact ht.each x hx
theorem TrimS.cats {m m':Int} {k k' n n':Nat} {s t:List Lin} (hs:TrimS m k n s) (ht:TrimS m' k' n' t) (h:m+m'≤1000000000000000):zbD s t=true:=by
 unfold zbD
 rw [List.all_eq_true]
 intro p hp
 obtain ⟨h1,h2⟩:=zb1.1 hp
 exact ((hs.each _ h1).cat (ht.each _ h2) h).1
theorem TrimS.cat {m m':Int} {k k' n n':Nat} {s t:List Lin} (hs:TrimS m k n s) (ht:TrimS m' k' n' t) (h:m+m'≤1000000000000000):TrimS (m+m') (k+k') (n*n') (zmj s t):=by
 obtain ⟨h1,h2,h3⟩:=zhF (hs.cats ht h)
 refine ⟨h1,fun x hx=>?_,Nat.le_trans h3 (Nat.mul_le_mul hs.few ht.few)⟩
 obtain ⟨p,hp,q,hq,rfl⟩:=(h2 x).1 hx
 exact ((hs.each p hp).cat (ht.each q hq) h).2
section
variable {x y z:List Lin}
theorem za7:rightLin ⟨[],[]⟩=true:=by decide
theorem zru:zcH zmv:=⟨fun z hz=>by simp [zmv] at hz;subst hz;exact za7,by simp [zmv]⟩
end
end Go.Proofs.YtmnkjekjknhhjaaGreatDoor
