import Derived.Test.YtmnkjekjknhhjaaGreatDoorOc
import Derived.Test.YtmnkjekjknhhjaaGreatDoorQPd
namespace Go.Proofs.YtmnkjekjknhhjaaGreatDoor
open Go.ChangeShapes Go.WideShapes Go.ChangeAt Go.RowKit
def ziY (ps:List (List Int)) (t:Nat):Int:=(ps.map (fun p=>p.getD t 0)).sum
def ze5 (s:List Lin) (t:Nat):Int:=(s.map (fun x=>x.base.getD t 0)).sum
theorem zba (p:List Int) (r:List (List Int)) (t:Nat):ziY (p::r) t=p.getD t 0+ziY r t:=by simp [ziY]
theorem zaZ (x:Lin) (r:List Lin) (t:Nat):ze5 (x::r) t=x.base.getD t 0+ze5 r t:=by simp [ze5]
theorem znG (b:List Int) (hb:zaa b=true) (t:Nat):∀ l:List (List Int),ziY (zdz b l) t≤b.getD t 0+ziY l t
 | []=>by unfold zdz;rw [zba];omega
 | x::r=>by
  have ih:=znG b hb t r
  have:=(zae hb t).1
  unfold zdz
  split
  ·rw [zba,zba];omega
  ·split
   ·rw [zba];omega
   ·rw [zba,zba];omega
theorem zdR (t:Nat):∀ (ps l:List (List Int)),(∀ p∈ps,zaa p=true)→ziY (zaj l ps) t≤ziY l t+ziY ps t
 | [],l,_=>by show ziY l t≤ziY l t+0;omega
 | b::r,l,h=>by
  have ih:=zdR t r (zdz b l) (fun p hp=>h p (List.mem_cons_of_mem _ hp))
  have:=znG b (h b (by simp)) t l
  have e:zaj l (b::r)=zaj (zdz b l) r:=rfl
  rw [e,zba]
  omega
theorem znH (b:Lin) (hb:zaa b.base=true) (t:Nat):∀ l:List Lin,ze5 (zf1 b l) t≤b.base.getD t 0+ze5 l t
 | []=>by unfold zf1;rw [zaZ];omega
 | x::r=>by
  have ih:=znH b hb t r
  have:=(zae hb t).1
  unfold zf1
  split
  ·rw [zaZ,zaZ];omega
  ·split
   ·rw [zaZ];omega
   ·rw [zaZ,zaZ];omega
theorem zfM (t:Nat):∀ (ps l:List Lin),(∀ p∈ps,zaa p.base=true)→ze5 (zaI l ps) t≤ze5 l t+ze5 ps t
 | [],l,_=>by show ze5 l t≤ze5 l t+0;omega
 | b::r,l,h=>by
  have ih:=zfM t r (zf1 b l) (fun p hp=>h p (List.mem_cons_of_mem _ hp))
  have:=znH b (h b (by simp)) t l
  have e:zaI l (b::r)=zaI (zf1 b l) r:=rfl
  rw [e,zaZ]
  omega
theorem znI (s t:List Lin) (i:Nat):ze5 (s++t) i=ze5 s i+ze5 t i:=by simp [ze5]
theorem znJ (x:Lin) (i:Nat):∀ t:List Lin,(∀ y∈t,za6 x y=true)→ze5 (t.map (fun y=>zaB x y)) i=(t.length:Int)*x.base.getD i 0+ze5 t i
 | [],_=>by simp [ze5]
 | y::r,h=>by
  have ih:=znJ x i r (fun z hz=>h z (List.mem_cons_of_mem _ hz))
  rw [List.map_cons,zaZ,ih,zaZ,zfG (h y (by simp)),List.length_cons]
  show (addT x.base y.base).getD i 0+_=_
  rw [zcG,Int.natCast_add,Int.add_mul]
  omega
theorem zlv (i:Nat) (t:List Lin):∀ s:List Lin,(∀ x∈s,∀ y∈t,za6 x y=true)→ze5 (zbs s t) i=(t.length:Int)*ze5 s i+(s.length:Int)*ze5 t i
 | [],_=>by simp [zbs,zh0,ze5]
 | x::r,h=>by
  have ih:=zlv i t r (fun z hz=>h z (List.mem_cons_of_mem _ hz))
  have e:zbs (x::r) t=t.map (fun y=>zaB x y)++zbs r t:=by
   simp [zbs,zh0,Function.comp_def]
  rw [e,znI,ih,znJ x i t (h x (by simp)),zaZ,List.length_cons,Int.natCast_add,Int.add_mul,Int.mul_add]
  omega
structure Slim (m:Int) (k:Nat) (x:Lin):Prop where
 trim:Trim m k x
 pers:∀ p∈x.ps,Small m p
 bl:x.base.length≤4
 pl:∀ p∈x.ps,p.length≤4
 tot:∀ t,ziY x.ps t≤5*(k:Int)
theorem Slim.more {m m':Int} {k k':Nat} {x:Lin} (h:Slim m k x) (hm:m≤m') (hk:k≤k'):Slim m' k' x:=
 ⟨⟨h.trim.right,h.trim.base.more hm,Nat.le_trans h.trim.few hk⟩,fun p hp=>(h.pers p hp).more hm,h.bl,h.pl,fun t=>by have:=h.tot t;omega⟩
theorem zoz {m:Int} {q:List Int} (hm:0≤m) (h:Small m q):Small m (normL q):=by
 unfold normL
 split
 ·next hr=>
  exact ⟨hr,(zac.1 hr).1,fun j=>by rw [zcF];exact h.top j⟩
 ·exact zcL hm
theorem zrH {m m':Int} {k k':Nat} {x y:Lin} (hx:Slim m k x) (hy:Slim m' k' y) (h0:0≤m) (h0':0≤m') (h:m+m'≤1000000000000000):Slim (m+m') (k+k') (zaB x y):=by
 obtain ⟨ok,T⟩:=hx.trim.cat hy.trim h
 have hm:∀ p,p∈(zaB x y).ps→p∈x.ps∨p∈y.ps:=fun p hp=>by
  rw [zfG ok] at hp
  exact ((zsn (zai.1 hx.trim.right).2 (zai.1 hy.trim.right).2).2 p).1 hp
 refine ⟨T,fun p hp=>?_,?_,fun p hp=>?_,fun t=>?_⟩
 ·rcases hm p hp with hp | hp
  ·exact (hx.pers p hp).more (by omega)
  ·exact (hy.pers p hp).more (by omega)
 ·rw [zfG ok]
  show (addT x.base y.base).length≤4
  rw [zbR]
  have:=hx.bl
  have:=hy.bl
  omega
 ·rcases hm p hp with hp | hp
  ·exact hx.pl p hp
  ·exact hy.pl p hp
 ·rw [zfG ok]
  show ziY (zaj (zaj [] x.ps) y.ps) t≤_
  have h1:=zdR t y.ps (zaj [] x.ps) (fun p hp=>(hy.pers p hp).right)
  have h2:=zdR t x.ps [] (fun p hp=>(hx.pers p hp).right)
  have h3:ziY [] t=0:=rfl
  have:=hx.tot t
  have:=hy.tot t
  omega
theorem zrI (q:List Int):(normL q).length≤q.length:=by
 unfold normL
 split
 ·rw [zbo];exact zfo q
 ·exact Nat.zero_le _
theorem znK {q:List Int} (h:zaa q=true) (t:Nat):(normL q).getD t 0=q.getD t 0:=by
 have hr:zaa (trimL q)=true:=by
  refine zcx ?_ (fun j _=>?_) (fun h0=>zf0 h0)
  ·rw [zbo]
   have:=zfo q
   have:=(zac.1 h).1
   omega
  ·rw [zcF];exact zae h j
 rw [zeQ hr,zcF]
theorem zih (t:Nat):∀ ps:List (List Int),(∀ p∈ps,zaa p=true)→ziY (zaN ps) t=ziY ps t
 | [],_=>rfl
 | p::r,h=>by
  have ih:=zih t r (fun q hq=>h q (List.mem_cons_of_mem _ hq))
  have hp:=znK (h p (by simp)) t
  unfold zaN at ih ⊢
  rw [List.map_cons,List.filter_cons]
  split
  ·rw [zba,zba,ih,hp]
  ·next hne=>
   have e:normL p=[]:=by simpa using hne
   rw [e] at hp
   rw [zba,ih,←hp]
   simp
theorem zp5 {m:Int} {k:Nat} {s:List Lin} (h0:0≤m) (hs:∀ x∈s,Small m x.base∧x.base.length≤4) (hk:s.length≤k) (ht:∀ t,ze5 s t≤5*(k:Int)):Slim m k (zbh [] (zax s)):=by
 have hm:∀ p,p∈(zbh [] (zax s)).ps→∃ x∈s,p=normL x.base:=fun p hp=>by
  unfold zbh at hp
  split at hp
  ·have hp2:=(zeS (zfF (zax s)) zhE p).1 hp
   rcases hp2 with hp2 | hp2
   ·simp at hp2
   ·unfold zaN at hp2
    obtain ⟨q,hq,rfl⟩:=List.mem_map.1 (List.mem_filter.1 hp2).1
    unfold zax at hq
    obtain ⟨x,hx,rfl⟩:=List.mem_map.1 hq
    exact ⟨x,hx,rfl⟩
  ·simp at hp
 refine ⟨⟨znr _ _,by rw [zkj];exact zcL h0,?_⟩,fun p hp=>?_,by rw [zkj];exact Nat.zero_le _,fun p hp=>?_,fun t=>?_⟩
 ·have h:=zsu [] (zax s)
  have h2:(zax s).length=s.length:=by unfold zax;rw [List.length_map]
  omega
 ·obtain ⟨x,hx,rfl⟩:=hm p hp
  exact zoz h0 (hs x hx).1
 ·obtain ⟨x,hx,rfl⟩:=hm p hp
  exact Nat.le_trans (zrI _) (hs x hx).2
 ·have hr:∀ p∈zax s,zaa p=true:=fun p hp=>by
   unfold zax at hp
   obtain ⟨x,hx,rfl⟩:=List.mem_map.1 hp
   exact (hs x hx).1.right
  have e1:ziY (zax s) t=ze5 s t:=by simp [ziY,ze5,zax,Function.comp_def]
  have h1:=ht t
  unfold zbh
  split
  ·show ziY (zaj [] (zaN (zax s))) t≤_
   have h2:=zdR t (zaN (zax s)) [] (fun p hp=>(zfF (zax s) p hp).1)
   have h3:ziY [] t=0:=rfl
   rw [zih t _ hr,e1] at h2
   omega
  ·show (0:Int)≤_
   omega
def pcW (c:Nat):Nat:=if c≤1 then 0 else 2 ^ (c/2-1)
def zcW (c:Nat):Nat:=2 ^ ((c-1)/2)
theorem zp6 {x y:Nat} (hx:1≤x) (hy:1≤y):2 ^ (x-1)+2 ^ (y-1)≤2 ^ (x+y-1):=by
 have e:x+y-1=(x-1)+(y-1)+1:=by omega
 have p1:=zaD (show x-1≤(x-1)+(y-1) by omega)
 have p2:=zaD (show y-1≤(x-1)+(y-1) by omega)
 rw [e,Nat.pow_succ]
 omega
theorem zeu {a b:Nat} (h:a≤b):pcW a≤pcW b:=by
 unfold pcW
 split
 ·exact Nat.zero_le _
 ·rw [if_neg (by omega)]
  exact zaD (by omega)
theorem zut (a b:Nat):pcW a+pcW b≤pcW (a+b):=by
 by_cases ha:a≤1
 ·have:=zeu (show b≤a+b by omega)
  unfold pcW at this ⊢
  rw [if_pos ha]
  omega
 ·by_cases hb:b≤1
  ·have:=zeu (show a≤a+b by omega)
   unfold pcW at this ⊢
   rw [if_pos hb]
   omega
  ·have h:=zp6 (x:=a/2) (y:=b/2) (by omega) (by omega)
   have h2:=zaD (show a/2+b/2-1≤(a+b)/2-1 by omega)
   unfold pcW
   rw [if_neg ha,if_neg hb,if_neg (by omega)]
   omega
theorem zp7 (a:Nat):1≤zcW a:=Nat.one_le_two_pow
theorem zuu {a b:Nat} (ha:1≤a) (hb:1≤b):zcW a*zcW b≤zcW (a+b+1):=by
 unfold zcW
 rw [←Nat.pow_add]
 exact zaD (by omega)
theorem zsw {a b:Nat} (ha:1≤a) (hb:1≤b):zcW a+zcW b≤zcW (a+b+1):=by
 have h:=zp6 (x:=(a-1)/2+1) (y:=(b-1)/2+1) (by omega) (by omega)
 have h2:=zaD (show (a-1)/2+1+((b-1)/2+1)-1≤(a+b+1-1)/2 by omega)
 unfold zcW
 rw [Nat.add_sub_cancel,Nat.add_sub_cancel] at h
 omega
theorem zuv {a b:Nat} (ha:1≤a) (hb:1≤b):2*(zcW a*zcW b)≤zcW (a+b+1):=by
 unfold zcW
 rw [←Nat.pow_add,Nat.mul_comm,←Nat.pow_succ]
 exact zaD (by omega)
theorem zs8 {a:Nat} (ha:1≤a):zcW a≤pcW (a+1):=by
 unfold zcW pcW
 rw [if_neg (by omega)]
 exact zaD (by omega)
structure Fits (c:Nat) (s:List Lin):Prop where
 rise:zcH s
 each:∀ x∈s,Slim ((c:Int)*5) (pcW c) x
 few:s.length≤zcW c
 tot:∀ t,ze5 s t≤5*(zcW c:Int)
structure Wide (c:Nat) (s:List Lin):Prop where
 rise:zcH s
 each:∀ x∈s,Slim ((c:Int)*5) (pcW c) x
theorem Fits.wide {c:Nat} {s:List Lin} (h:Fits c s):Wide c s:=⟨h.rise,h.each⟩
theorem zfN {c:Nat} {x:Lin} (h:Slim ((c:Int)*5) (pcW c) x) (ht:∀ t,x.base.getD t 0≤5):Fits c [x]:=
 ⟨⟨fun z hz=>by obtain rfl:=List.mem_singleton.1 hz;exact h.trim.right,by simp⟩,fun z hz=>by obtain rfl:=List.mem_singleton.1 hz;exact h,zp7 c,fun t=>by
  have h1:=zp7 c
  have h2:=ht t
  have h3:ze5 [x] t=x.base.getD t 0:=by rw [zaZ];show _+(0:Int)=_;omega
  rw [h3]
  omega⟩
theorem zrJ:Fits 1 []:=⟨zcI,fun x h=>by simp at h,Nat.zero_le _,fun t=>by show (0:Int)≤_;have:=zp7 1;omega⟩
theorem zlw (k:Nat) (t:Nat):ziY [] t≤5*(k:Int):=by show (0:Int)≤_;omega
theorem zrK:Fits 1 zmv:=zfN ⟨⟨za7,zcL (by omega),Nat.zero_le _⟩,fun p hp=>by simp at hp,Nat.zero_le _,fun p hp=>by simp at hp,zlw _⟩ (fun t=>by simp)
theorem zrL {t n:Int} (h0:0≤t) (h1:t<4) (h2:1≤n) (h3:n≤5):Fits 1 [⟨zc5 t n,[]⟩]:=by
 have g:=(zki h0 (show t<12 by omega) h2 (by omega)).each _ (List.mem_singleton.2 rfl)
 have ok:ziR t n=true:=zgG.2 ⟨⟨h0,by omega⟩,h2,by omega⟩
 have hj:∀ j,(zc5 t n).getD j 0≤5:=fun j=>by
  unfold zc5
  rw [if_pos ok]
  by_cases hj:j<t.toNat+1
  ·rw [zd0 hj]
   split<;>omega
  ·rw [zfZ (by omega)];omega
 refine zfN ⟨⟨g.right,⟨g.base.right,g.base.len,fun j=>?_⟩,Nat.zero_le _⟩,fun p hp=>by simp at hp,?_,fun p hp=>by simp at hp,zlw _⟩ hj
 ·have:=hj j
  show (zc5 t n).getD j 0≤_
  omega
 ·show (zc5 t n).length≤4
  unfold zc5
  rw [if_pos ok,zaw]
  omega
theorem znL {a b:Nat} {s t:List Lin} (hs:Wide a s) (ht:Wide b t):Wide (a+b) (zaT s t):=by
 obtain ⟨h1,h2,_⟩:=zf2 hs.rise ht.rise
 refine ⟨h1,fun x hx=>?_⟩
 rcases (h2 x).1 hx with hx | hx
 ·exact (hs.each x hx).more (by omega) (zeu (by omega))
 ·exact (ht.each x hx).more (by omega) (zeu (by omega))
theorem znM {a b:Nat} {s t:List Lin} (hs:Wide a s) (ht:Wide b t) (hab:a+b≤1000) (hok:zbD s t=true):Wide (a+b) (zmj s t):=by
 obtain ⟨h1,h2,_⟩:=zhF hok
 refine ⟨h1,fun x hx=>?_⟩
 obtain ⟨y,hy,z,hz,rfl⟩:=(h2 x).1 hx
 exact (zrH (hs.each y hy) (ht.each z hz) (by omega) (by omega) (by omega)).more (by omega) (zut a b)
theorem zrM {a b:Nat} {s t:List Lin} (ha:1≤a) (hb:1≤b) (hs:Fits a s) (ht:Fits b t):Fits (a+b+1) (zaT s t):=by
 have W:=znL hs.wide ht.wide
 obtain ⟨_,_,h3⟩:=zf2 hs.rise ht.rise
 refine ⟨W.rise,fun x hx=>(W.each x hx).more (by omega) (zeu (by omega)),?_,fun i=>?_⟩
 ·have:=hs.few
  have:=ht.few
  have:=zsw ha hb
  omega
 ·have e:zaT s t=zaI [] (s++t):=by unfold zaT;rw [zan.2 hs.rise,zan.2 ht.rise];rfl
  have h1:=zfM i (s++t) [] (fun p hp=>by
   rcases List.mem_append.1 hp with hp | hp
   ·exact (hs.each p hp).trim.base.right
   ·exact (ht.each p hp).trim.base.right)
  have h2:ze5 [] i=0:=rfl
  rw [znI] at h1
  have:=hs.tot i
  have:=ht.tot i
  have:=zsw ha hb
  rw [e]
  omega
theorem zkr:∀ {s:List Lin},(∀ x∈s,zaa x.base=true)→∀ i,0≤ze5 s i
 | [],_,_=>Int.le_refl _
 | x::r,h,i=>by
  have ih:=zkr (s:=r) (fun y hy=>h y (List.mem_cons_of_mem _ hy)) i
  have:=(zae (h x (by simp)) i).1
  rw [zaZ]
  omega
theorem zrN {a b:Nat} {s t:List Lin} (ha:1≤a) (hb:1≤b) (hs:Fits a s) (ht:Fits b t) (hab:a+b≤1000) (hok:zbD s t=true):Fits (a+b+1) (zmj s t):=by
 have W:=znM hs.wide ht.wide hab hok
 obtain ⟨_,_,h3⟩:=zhF hok
 refine ⟨W.rise,fun x hx=>(W.each x hx).more (by omega) (zeu (by omega)),Nat.le_trans h3 (Nat.le_trans (Nat.mul_le_mul hs.few ht.few) (zuu ha hb)),fun i=>?_⟩
 have hok2:∀ x∈s,∀ y∈t,za6 x y=true:=fun x hx y hy=>List.all_eq_true.1 hok (x,y) (zb1.2 ⟨hx,hy⟩)
 have h1:=zfM i (zbs s t) [] (fun p hp=>by
  unfold zbs at hp
  obtain ⟨q,hq,rfl⟩:=List.mem_map.1 hp
  obtain ⟨q1,q2⟩:=zb1.1 hq
  rw [zfG (hok2 _ q1 _ q2)]
  have A:=((hs.each _ q1).trim.base.add (ht.each _ q2).trim.base (by omega)).2.2
  exact A.right)
 have h2:ze5 [] i=0:=rfl
 rw [zlv i t s hok2] at h1
 have b1:=hs.tot i
 have b2:=ht.tot i
 have n1:0≤ze5 s i:=zkr (fun x hx=>(hs.each x hx).trim.base.right) i
 have n2:0≤ze5 t i:=zkr (fun x hx=>(ht.each x hx).trim.base.right) i
 have m1:(t.length:Int)*ze5 s i≤(zcW b:Int)*(5*(zcW a:Int)):=Int.mul_le_mul (by have:=ht.few;omega) b1 n1 (by omega)
 have m2:(s.length:Int)*ze5 t i≤(zcW a:Int)*(5*(zcW b:Int)):=Int.mul_le_mul (by have:=hs.few;omega) b2 n2 (by omega)
 have z:=zuv ha hb
 have e1:(zcW b:Int)*(5*(zcW a:Int))=5*((zcW a*zcW b:Nat):Int):=by rw [Int.natCast_mul];rw [Int.mul_left_comm,Int.mul_comm (zcW b:Int)]
 have e2:(zcW a:Int)*(5*(zcW b:Int))=5*((zcW a*zcW b:Nat):Int):=by rw [Int.natCast_mul];rw [Int.mul_left_comm]
 show ze5 (zaI [] (zbs s t)) i≤_
 omega
theorem zp8 {a:Nat} {s:List Lin} (ha:1≤a) (hs:Fits a s):Fits (a+1) [zbh [] (zax s)]:=
 zfN ((zp5 (m:=(a:Int)*5) (k:=zcW a) (by omega) (fun x hx=>⟨(hs.each x hx).trim.base,(hs.each x hx).bl⟩) hs.few hs.tot).more (by omega) (zs8 ha)) (fun t=>by rw [zkj];simp)
def StkG (P:Nat→List Lin→Prop) (es:List (List Lin)):List (Int×Bool)→Nat→Prop
 | [],_=>True
 | p::r,t=>∃ u v,1≤u∧u+v≤t∧(∃ j:Nat,p.1=(j:Int)∧j<es.length∧P u (es.getD j []))∧StkG P es r v
section
variable {P Q:Nat→List Lin→Prop}
theorem StkG.map (f:∀ u s,P u s→Q u s) {es:List (List Lin)}:∀ {fl:List (Int×Bool)} {t:Nat},StkG P es fl t→StkG Q es fl t
 | [],_,_=>trivial
 | _::_,_,h=>by
  obtain ⟨u,v,h1,huv,⟨j,hj,hl,g⟩,r⟩:=h
  exact ⟨u,v,h1,huv,⟨j,hj,hl,f _ _ g⟩,StkG.map f r⟩
theorem StkG.more {es:List (List Lin)}:∀ {fl:List (Int×Bool)} {t t':Nat},StkG P es fl t→t≤t'→StkG P es fl t'
 | [],_,_,_,_=>trivial
 | _::_,_,_,h,le=>by
  obtain ⟨u,v,h1,huv,g,r⟩:=h
  exact ⟨u,v,h1,by omega,g,r⟩
theorem StkG.push {es:List (List Lin)} (x:List Lin):∀ {fl:List (Int×Bool)} {t:Nat},StkG P es fl t→StkG P (es++[x]) fl t
 | [],_,_=>trivial
 | _::_,_,h=>by
  obtain ⟨u,v,h1,huv,⟨j,hj,hl,g⟩,r⟩:=h
  refine ⟨u,v,h1,huv,⟨j,hj,by simp;omega,?_⟩,StkG.push x r⟩
  have:(es++[x]).getD j []=es.getD j []:=by
   rw [List.getD_eq_getElem?_getD,List.getD_eq_getElem?_getD,List.getElem?_append_left hl]
  rw [this];exact g
theorem StkG.split {es:List (List Lin)}:∀ {A B:List (Int×Bool)} {t:Nat},StkG P es (A++B) t→∃ u v,u+v≤t∧StkG P es A u∧StkG P es B v
 | [],_,t,h=>⟨0,t,by omega,trivial,h⟩
 | p::A,B,t,h=>by
  obtain ⟨u,v,h1,huv,g,r⟩:=h
  obtain ⟨u',v',h',a,b⟩:=StkG.split (A:=A) r
  exact ⟨u+u',v',by omega,⟨u,u',h1,Nat.le_refl _,g,a⟩,b⟩
theorem StkG.join {es:List (List Lin)}:∀ {A B:List (Int×Bool)} {u v:Nat},StkG P es A u→StkG P es B v→StkG P es (A++B) (u+v)
 | [],_,_,_,_,h=>StkG.more h (by omega)
 | p::A,B,_,_,h,k=>by
  obtain ⟨u,v,h1,huv,g,r⟩:=h
  exact ⟨u,v+_,h1,by omega,g,StkG.join (A:=A) r k⟩
theorem StkG.leaf {es:List (List Lin)} {F:List (Int×Bool)} {u v t:Nat} {x:List Lin} {b:Bool} (h:StkG P es F u) (hv:1≤v) (huv:u+v≤t) (g:P v x):StkG P (es++[x]) (F++[((es.length:Int),b)]) t:=
 StkG.more (StkG.join (StkG.push x h) (show StkG P (es++[x]) [((es.length:Int),b)] v from ⟨v,0,hv,by omega,⟨es.length,rfl,by simp,by simpa using g⟩,trivial⟩)) huv
theorem StkG.two {es:List (List Lin)} {F:List (Int×Bool)} {p q:Int×Bool} {t:Nat} (h:StkG P es (F++[p,q]) t) :
  ∃ u a b i j,1≤a∧1≤b∧u+a+b≤t∧StkG P es F u∧p.1=((i:Nat):Int)∧P a (es.getD i [])∧q.1=((j:Nat):Int)∧P b (es.getD j []):=by
 obtain ⟨u,v,huv,hF,a,v',ha,hav,⟨i,hi,hil,hg⟩,b,v'',hb,hbv,⟨j,hj,hjl,hg'⟩,_⟩:=StkG.split h
 exact ⟨u,a,b,i,j,ha,hb,by omega,hF,hi,hg,hj,hg'⟩
theorem StkG.one {es:List (List Lin)} {F:List (Int×Bool)} {p:Int×Bool} {t:Nat} (h:StkG P es (F++[p]) t) :
  ∃ u a i,1≤a∧u+a≤t∧StkG P es F u∧p.1=((i:Nat):Int)∧P a (es.getD i []):=by
 obtain ⟨u,v,huv,hF,a,v',ha,hav,⟨i,hi,hil,hg⟩,_⟩:=StkG.split h
 exact ⟨u,a,i,ha,by omega,hF,hi,hg⟩
end
theorem zjn {s t:List Lin} (h:(zfi none s t).2.1=0):zbD s t=true:=by
 unfold zfi at h
 split at h
 ·split at h
  ·split at h
   ·next hh=>exact hh
   ·exact absurd (show (3:Int)=0 from h) (by decide)
  ·exact absurd (show (7:Int)=0 from h) (by decide)
 ·exact absurd (show (1:Int)=0 from h) (by decide)
theorem zp9 {T:Int} (hT:T≤4) {es:List (List Lin)} {fl fl':List (Int×Bool)} {k:Nat} {x:Q.Nd} {y:List Lin} (hs:Q.chkStep T k x fl=some fl') (S:StkG Fits es fl k) (hl:es.length=k) (hk:k≤500) (ht:x.kind=3→x.a≤5)
  (hy:zau none es x.kind x.a x.b x.n=(y,0,none)):StkG Fits (es++[y]) fl' (k+1):=by
 have hs2:=zcM hs
 obtain ⟨xk,xa,xb,xn,nm⟩:=x
 dsimp only at hs2 hy ht
 clear hs
 subst hl
 rcases hs2 with ⟨h12,hfl⟩ | ⟨h3,n0,n1,a0,a1,hfl⟩ | ⟨h45,F,p,q,hF,hp,hq,hfl⟩ | ⟨h6,F,p,hF,hp,hfl⟩
 ·rcases h12 with rfl | rfl
  ·rw [zuo none es xa xb xn] at hy
   injection hy with hy _
   subst hy
   rw [hfl]
   exact S.leaf (Nat.le_refl _) (by omega) zrJ
  ·rw [zup none es xa xb xn] at hy
   injection hy with hy _
   subst hy
   rw [hfl]
   exact S.leaf (Nat.le_refl _) (by omega) zrK
 ·subst h3
  rw [zuq none es xa xb xn] at hy
  injection hy with hy _
  subst hy
  rw [hfl]
  exact S.leaf (Nat.le_refl _) (by omega) (zrL n0 (by omega) a0 (ht rfl))
 ·rw [hF] at S
  obtain ⟨u,a,b,i,j,ha,hb,huv,SF,hi,gi,hj,gj⟩:=S.two
  rw [hi] at hp
  rw [hj] at hq
  subst hp;subst hq
  rw [hfl]
  rcases h45 with rfl | rfl
  ·rw [zs0 none es xn i j] at hy
   injection hy with hy _
   subst hy
   exact SF.leaf (v:=a+b+1) (by omega) (by omega) (zrM ha hb gi gj)
  ·rw [zs1 none es xn i j] at hy
   have h0:(zfi none (es.getD i []) (es.getD j [])).2.1=0:=by rw [hy]
   have e:=zmz h0
   rw [hy] at e
   dsimp only at e
   subst e
   exact SF.leaf (v:=a+b+1) (by omega) (by omega) (zrN ha hb gi gj (by omega) (zjn h0))
 ·rw [hF] at S
  obtain ⟨u,a,i,ha,huv,SF,hi,gi⟩:=S.one
  rw [hi] at hp
  subst hp;subst h6
  rw [hfl]
  rw [zur none es xb xn i] at hy
  have h0:(zbS none (es.getD i [])).2.1=0:=by rw [hy]
  have e:=znC h0
  rw [hy] at e
  dsimp only at e
  subst e
  exact SF.leaf (v:=a+1) (by omega) (by omega) (zp8 ha gi)
theorem zqa {T:Int} {es:List (List Lin)} {fl fl':List (Int×Bool)} {k t:Nat} {x:Q.Nd} {y:List Lin} (hs:Q.chkStep T k x fl=some fl') (S:StkG Wide es fl t) (hl:es.length=k) (ht:t≤500) (hx:x.kind=4∨x.kind=5)
  (hy:zau none es x.kind x.a x.b x.n=(y,0,none)):StkG Wide (es++[y]) fl' t:=by
 have hs2:=zcM hs
 obtain ⟨xk,xa,xb,xn,nm⟩:=x
 dsimp only at hs2 hy hx
 clear hs
 subst hl
 rcases hs2 with ⟨h12,hfl⟩ | ⟨h3,n0,n1,a0,a1,hfl⟩ | ⟨h45,F,p,q,hF,hp,hq,hfl⟩ | ⟨h6,F,p,hF,hp,hfl⟩
 ·omega
 ·omega
 ·rw [hF] at S
  obtain ⟨u,a,b,i,j,ha,hb,huv,SF,hi,gi,hj,gj⟩:=S.two
  rw [hi] at hp
  rw [hj] at hq
  subst hp;subst hq
  rw [hfl]
  rcases h45 with rfl | rfl
  ·rw [zs0 none es xn i j] at hy
   injection hy with hy _
   subst hy
   exact SF.leaf (v:=a+b) (by omega) (by omega) (znL gi gj)
  ·rw [zs1 none es xn i j] at hy
   have h0:(zfi none (es.getD i []) (es.getD j [])).2.1=0:=by rw [hy]
   have e:=zmz h0
   rw [hy] at e
   dsimp only at e
   subst e
   exact SF.leaf (v:=a+b) (by omega) (by omega) (znM gi gj (by omega) (zjn h0))
 ·omega
theorem zlx {T:Int} (hT:T≤4) {A B:List Q.Nd} (hc:Q.chkB (A++B) T=true) (h24:(A++B).length≤24) (hA:∀ x∈A,x.kind=3→x.a≤5):∀ k,k≤A.length→∃ es fl,zaU ((A++B).take k) none []=(es,0,none)∧es.length=k∧Q.chkL T 0 ((A++B).take k) []=some fl∧Stk es fl k∧StP es fl∧StkG Fits es fl k
 | 0,_=>⟨[],[],rfl,rfl,rfl,trivial,fun p h=>by simp at h,trivial⟩
 | k+1,hk=>by
  obtain ⟨es,fl,e1,e2,e3,e4,e5,e6⟩:=zlx hT hc h24 hA k (by omega)
  have hk':k<(A++B).length:=by rw [List.length_append];omega
  obtain ⟨fl',hs,hf'⟩:=zgb hc hk' e3
  obtain ⟨y,n1,n2,n3,n4,_⟩:=zif (show T≤12 by omega) hs e4 e5 e2 (by omega)
  refine ⟨es++[y],fl',?_,by simp [e2],hf',n2,n4,zp9 hT hs e6 e2 (by omega) (fun h=>?_) n1⟩
  ·rw [List.take_succ_eq_append_getElem hk']
   exact zfL e1 n1
  ·have hm:(A++B)[k]∈A:=by
    rw [List.getElem_append_left (by omega)]
    exact List.getElem_mem _
   exact hA _ hm h
theorem zly {T:Int} (hT:T≤4) {A B:List Q.Nd} (hc:Q.chkB (A++B) T=true) (h24:(A++B).length≤24) (hA:∀ x∈A,x.kind=3→x.a≤5) (hB:∀ x∈B,x.kind=4∨x.kind=5):∀ j,A.length+j≤(A++B).length→∃ es fl,zaU ((A++B).take (A.length+j)) none []=(es,0,none)∧es.length=A.length+j∧Q.chkL T 0 ((A++B).take (A.length+j)) []=some fl∧Stk es fl (A.length+j)∧StP es fl∧StkG Wide es fl A.length
 | 0,_=>by
  obtain ⟨es,fl,e1,e2,e3,e4,e5,e6⟩:=zlx hT hc h24 hA A.length (Nat.le_refl _)
  exact ⟨es,fl,e1,e2,e3,e4,e5,e6.map (fun _ _ h=>h.wide)⟩
 | j+1,hj=>by
  obtain ⟨es,fl,e1,e2,e3,e4,e5,e6⟩:=zly hT hc h24 hA hB j (by omega)
  have hk':A.length+j<(A++B).length:=by omega
  obtain ⟨fl',hs,hf'⟩:=zgb hc hk' e3
  obtain ⟨y,n1,n2,n3,n4,_⟩:=zif (show T≤12 by omega) hs e4 e5 e2 (by omega)
  refine ⟨es++[y],fl',?_,by simp [e2];omega,hf',n2,n4,zqa hs e6 e2 (by omega) ?_ n1⟩
  ·rw [←Nat.add_assoc,List.take_succ_eq_append_getElem hk']
   exact zfL e1 n1
  ·have hm:(A++B)[A.length+j]∈B:=by
    rw [List.getElem_append_right (by omega)]
    exact List.getElem_mem _
   exact hB _ hm
theorem zoA {T:Int} (h0:0≤T) (hT:T≤4) {ns:List Q.Nd} (hc:Q.chkB ns T=true) {K:Nat} (hS:Q.Sh2 K ns):∃ x,zgN (none:Mr) ns T=(x,0,none)∧Wide K x:=by
 obtain ⟨A,B,rfl,hA,hB⟩:=hS
 obtain ⟨h1,h24,b,hl⟩:=zs2 hc
 obtain ⟨es,fl,e1,e2,e3,_,_,S⟩:=zly hT hc h24 hA.2 hB B.length (by rw [List.length_append];omega)
 have ef:(A++B).take (A.length+B.length)=A++B:=by rw [←List.length_append];exact List.take_length
 rw [ef] at e1 e3
 rw [hl] at e3
 injection e3 with e3
 subst e3
 obtain ⟨u,v,hu,huv,⟨j,hj,hjl,g⟩,_⟩:=S
 obtain rfl:j=(A++B).length-1:=by dsimp only at hj;omega
 have hAK:=hA.1
 exact ⟨_,zhG ⟨h0,by omega,hc⟩ e1,g.rise,fun x hx=>(g.each x hx).more (by omega) (zeu (by omega))⟩
end Go.Proofs.YtmnkjekjknhhjaaGreatDoor
