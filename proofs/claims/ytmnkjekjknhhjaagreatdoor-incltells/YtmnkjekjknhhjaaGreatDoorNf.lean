import Derived.Test.YtmnkjekjknhhjaaGreatDoorNd
import Derived.Test.YtmnkjekjknhhjaaGreatDoorEg
import Derived.Test.YtmnkjekjknhhjaaGreatDoorMt
namespace Go.Proofs.YtmnkjekjknhhjaaGreatDoor
open Go.ChangeShapes Go.WideShapes Go.ChangeAt Go.RowKit
def Mr:Type:=Option (Int×Int×Bool)
def MrAt (w:World) (T:TypeId) (mp:Option Addr) (M:Mr):Prop:=
 match M with
 | none=>mp=none
 | some (B,S,o)=>∃ b,mp=some ⟨b,0,none⟩∧At w T b B S o∧0≤S∧S≤B∧B≤9223372036854775807
def spendM (M:Mr) (n:Int):Bool×Mr:=
 match M with
 | none=>(true,none)
 | some (B,S,o)=>(zh7 B S n o,some (B,next B S n o,!zh7 B S n o))
theorem MrAt.below {w w':World} {T:TypeId} {mp:Option Addr} {M:Mr} (h:MrAt w T mp M) (b:Below w.heap.size w w'):MrAt w' T mp M:=by
 cases M with
 | none=>exact h
 | some p=>
  obtain ⟨B,S,o⟩:=p
  obtain ⟨g,e,a,r⟩:=h
  exact ⟨g,e,a.below b,r⟩
theorem MrAt.form {w:World} {T:TypeId} {mp:Option Addr} {M:Mr} (h:MrAt w T mp M):mp=none∨∃ b,mp=some ⟨b,0,none⟩∧∃ cs,Lies w b T cs:=by
 cases M with
 | none=>exact .inl h
 | some p=>
  obtain ⟨B,S,o⟩:=p
  obtain ⟨g,e,a,_⟩:=h
  exact .inr ⟨g,e,_,a⟩
theorem zaV {w:World} {T:TypeId} {mp:Option Addr} {M:Mr} (h:MrAt w T mp M) (hT:T≠3) {a:Option Addr} {c:Nat} {xs:List Int} (r:Bag w a c xs) {g:Nat} (e:a=some ⟨g,0,none⟩):mp≠some ⟨g,0,none⟩:=by
 intro e2
 rcases h.form with h | ⟨b,h,cs,l⟩
 ·rw [h] at e2;cases e2
 ·rw [h] at e2;injection e2 with e2;injection e2 with e2;subst e2
  rcases r with ⟨h1,_⟩ | ⟨g1,sp,h1,_,_,l1⟩
  ·rw [h1] at e;cases e
  ·rw [h1] at e;injection e with e;injection e with e;subst e
   exact l.other l1 hT rfl
theorem zcD {w:World} {T:TypeId} {mp:Option Addr} {M:Mr} (h:MrAt w T mp M) (hT:T≠31) {a:Option Addr} {c:Nat} {xs:List Value} (r:Row w 31 a c xs) {g:Nat} (e:a=some ⟨g,0,none⟩):mp≠some ⟨g,0,none⟩:=by
 intro e2
 rcases h.form with h | ⟨b,h,cs,l⟩
 ·rw [h] at e2;cases e2
 ·rw [h] at e2;injection e2 with e2;injection e2 with e2;subst e2
  rcases r with ⟨h1,_⟩ | ⟨g1,sp,h1,_,_,l1⟩
  ·rw [h1] at e;cases e
  ·rw [h1] at e;injection e with e;injection e with e;subst e
   exact l.other l1 hT rfl
theorem zmx {w:World} {T:TypeId} {mp:Option Addr} {M:Mr} (h:MrAt w T mp M) (hT:T≠53) {a:Option Addr} {c n:Nat} {xs:List Value} (r:Row2 w a c n xs) {g:Nat} (e:a=some ⟨g,0,none⟩):mp≠some ⟨g,0,none⟩:=by
 intro e2
 rcases h.form with h | ⟨b,h,cs,l⟩
 ·rw [h] at e2;cases e2
 ·rw [h] at e2;injection e2 with e2;injection e2 with e2;subst e2
  obtain ⟨_,r⟩:=r
  rcases r with ⟨h1,_⟩ | ⟨g1,sp,h1,_,_,_,l1⟩
  ·rw [h1] at e;cases e
  ·rw [h1] at e;injection e with e;injection e with e;subst e
   exact l.other l1 hT rfl
def MT (T:TypeId):Prop:=T≠3∧T≠31∧T≠53
abbrev MK (mp:Option Addr) (w w':World):Prop:=Kept (fun g=>mp=some ⟨g,0,none⟩) w w'
theorem Lins.mk {w w':World} {T:TypeId} {mp:Option Addr} {M:Mr} (h:MrAt w T mp M) (hT:MT T) (k:MK mp w w') {a:Option Addr} {c:Nat} {s:List Lin} (r:Lins w a c s):Lins w' a c s:=by
 obtain ⟨ls,e,P⟩:=r
 refine ⟨ls,e,P.row.kept k (fun g e=>zmx h hT.2.2 P.row e),fun l hl=>?_⟩
 obtain ⟨h1,ps,e,Q⟩:=P.each l hl
 exact ⟨h1.kept k (fun g e=>zaV h hT.1 h1 e),ps,e,Q.row.kept k (fun g e=>zcD h hT.2.1 Q.row e),fun p hp=>(Q.each p hp).kept k (fun g e=>zaV h hT.1 (Q.each p hp) e)⟩
theorem MK.refl (mp:Option Addr) (w:World):MK mp w w:=Kept.refl _ _
theorem MK.then {mp:Option Addr} {w w1 w2:World} (h:MK mp w w1) (b:Below w1.heap.size w1 w2):MK mp w w2:=h.trans (Y:=fun _=>False) (Kept.of_below b) (fun _ _ e=>e.elim)
theorem MK.and {mp:Option Addr} {w w1 w2:World} (h:MK mp w w1) (k:MK mp w1 w2):MK mp w w2:=h.trans k (fun _ _ e=>e)
def zch (T:TypeId) (mp:Option Addr) (M:Mr) (n:Int) (w:World) (e:Ending) (w':World):Prop:=
 e=.returned (.bool (spendM M n).1)∧MrAt w' T mp (spendM M n).2∧MK mp w w'
theorem zg8 {T:TypeId} {b:Nat} {B S n:Int} {o:Bool} {w w':World} {e:Ending} (h0:0≤S) (h1:S≤B) (h2:B≤9223372036854775807) (h:zdE T b B S n o w e w'):zch T (some ⟨b,0,none⟩) (some (B,S,o)) n w e w':=by
 obtain ⟨he,ha,hk⟩:=h
 have:=zsR (n:=n) (o:=o) h0 h1
 refine ⟨he,⟨b,rfl,ha,this.1,this.2,h2⟩,hk.kept.mono (fun i _ e=>?_)⟩
 rw [←e]
theorem zpK (mp:Option Addr) (M:Mr) (n:Int) (w:World) (h:MrAt w 72 mp M):Calls Tryz.prog 59 #[.pointer mp,.int .i64 n] w (zch 72 mp M n w):=by
 cases M with
 | none=>
  obtain rfl:mp=none:=h
  exact (zpI n w).mono fun e w' ⟨he,hw⟩=>by subst hw;exact ⟨he,rfl,Kept.refl _ _⟩
 | some p=>
  obtain ⟨B,S,o⟩:=p
  obtain ⟨b,rfl,a,h0,h1,h2⟩:=h
  exact (zpH b B S n o w a h0 h1 h2).mono fun e w' hh=>zg8 h0 h1 h2 hh
theorem zkg (mp:Option Addr) (M:Mr) (n:Int) (w:World) (h:MrAt w 41 mp M) (hm:M≠none):Calls Tryz.prog 63 #[.pointer mp,.int .i64 n] w (zch 41 mp M n w):=by
 cases M with
 | none=>exact absurd rfl hm
 | some p=>
  obtain ⟨B,S,o⟩:=p
  obtain ⟨b,rfl,a,h0,h1,h2⟩:=h
  exact (zoq b B S n o w a h0 h1 h2).mono fun e w' hh=>zg8 h0 h1 h2 hh
theorem zdF {M:Mr} {n:Int} (h:M≠none):(spendM M n).2≠none:=by
 cases M with
 | none=>exact absurd rfl h
 | some p=>exact Option.some_ne_none _
def zsr (N:World→Nat→Lb→Prop) (T:TypeId) (mp:Option Addr) (r:List Lin×Int×Mr) (w:World) (e:Ending) (w':World):Prop:=
 ∃ a c ls,lins ls=r.1∧e=.returned (.tuple #[.slice a r.1.length c,.int .i64 r.2.1])∧Lbs w' a c ls∧From w.heap.size a∧(∀ l∈ls,N w' w.heap.size l)∧MrAt w' T mp r.2.2∧MK mp w w'
theorem zbu {N:World→Nat→Lb→Prop} {T:TypeId} {mp:Option Addr} {r:List Lin×Int×Mr} {q:Int} {M:Mr} {w w':World} (h:r=([],q,M)) (m:MrAt w' T mp M) (k:MK mp w w'):zsr N T mp r w (.returned (.tuple #[.slice none 0 0,.int .i64 q])) w':=by
 subst h
 exact ⟨none,0,[],rfl,rfl,Lbs.nil _,From.none _,fun l h=>by simp at h,m,k⟩
def zry (_:World) (_:Nat) (_:Lb):Prop:=True
abbrev zep:=zsr zry
def zfi (M:Mr) (s t:List Lin):List Lin×Int×Mr:=
 if zam s && zam t then
  (if (spendM M ((s.length*t.length:Nat):Int)).1 then (if zbD s t then (zmj s t,0,(spendM M ((s.length*t.length:Nat):Int)).2) else ([],3,(spendM M ((s.length*t.length:Nat):Int)).2))
   else ([],7,(spendM M ((s.length*t.length:Nat):Int)).2))
 else ([],1,M)
theorem zgM {l:List Lin} {k:Nat} (hk:k<l.length):l.take (k+1)=l.take k++[zab l k]:=by
 rw [List.take_succ_eq_append_getElem hk];simp [zab,List.getD,hk]
theorem zor {s t:List Lin} {k:Nat} (hk:k<s.length):zbs (s.take (k+1)) t=zbs (s.take k) t++t.map (fun y=>zaB (zab s k) y):=by
 rw [zgM hk]
 simp [zbs,zh0,List.flatMap_append,List.map_flatMap,Function.comp_def]
theorem zlj {s t:List Lin}:zbD s t=true↔∀ i j,i<s.length→j<t.length→za6 (zab s i) (zab t j)=true:=by
 unfold zbD
 rw [List.all_eq_true]
 constructor
 ·intro h i j hi hj
  have e1:zab s i=s[i]:=by simp [zab,List.getD,hi]
  have e2:zab t j=t[j]:=by simp [zab,List.getD,hj]
  rw [e1,e2]
  exact h (s[i],t[j]) (zb1.2 ⟨List.getElem_mem hi,List.getElem_mem hj⟩)
 ·intro h p hp
  obtain ⟨h1,h2⟩:=zb1.1 hp
  obtain ⟨i,hi,e1⟩:=List.getElem_of_mem h1
  obtain ⟨j,hj,e2⟩:=List.getElem_of_mem h2
  have:=h i j hi hj
  have f1:zab s i=s[i]:=by simp [zab,List.getD,hi]
  have f2:zab t j=t[j]:=by simp [zab,List.getD,hj]
  rw [f1,f2,e1,e2] at this
  exact this
structure AccN (N:World→Nat→Lb→Prop) (w:World) (oa:Option Addr) (oc m:Nat) (ls:List Lb) (W:World):Prop where
 bel:Below w.heap.size w W
 row:Lbs W oa oc ls
 num:ls.length=m
 own:From w.heap.size oa
 new:∀ l∈ls,N W w.heap.size l
structure Stays (N:World→Nat→Lb→Prop):Prop where
 below:∀ {w w':World} {B:Nat} {l:Lb},N w B l→Below w.heap.size w w'→N w' B l
 mono:∀ {w:World} {B B':Nat} {l:Lb},N w B l→B'≤B→N w B' l
 kept:∀ {w w':World} {a:Option Addr} {c n B:Nat} {xs:List Value},Row2 w a c n xs→Kept (fun g=>a=some ⟨g,0,none⟩) w w'→∀ {l:Lb},N w B l→N w' B l
theorem zcK:Stays zry:=⟨fun _ _=>trivial,fun _ _=>trivial,fun _ _ _ _=>trivial⟩
section
variable {N:World→Nat→Lb→Prop} {w W W':World} {oa:Option Addr} {oc m:Nat} {ls:List Lb}
theorem AccN.nil (N:World→Nat→Lb→Prop) (w:World):AccN N w none 0 0 [] w:=⟨Below.refl _ _,Lbs.nil _,rfl,From.none _,fun l h=>by simp at h⟩
theorem AccN.below (s:Stays N) (h:AccN N w oa oc m ls W) (k:Below W.heap.size W W'):AccN N w oa oc m ls W':=
 ⟨h.bel.trans (k.mono h.bel.size),h.row.below k,h.num,h.own,fun l hl=>s.below (h.new l hl) k⟩
set_option maxRecDepth 100000 in
theorem AccN.push (s:Stays N) (t:TypeId) (hu:Tryz.prog.underlying t=some (.slice 53)) (h:AccN N w oa oc m ls W) (hm:m≤100000000000) (l:Lb) (n q:Nat) (hn:l.x.base.length=n) (hq:l.x.ps.length=q)
  (hl:Bag W l.a l.c l.x.base∧Bags W l.pa l.pc l.x.ps) (hw:N W w.heap.size l) :
  ∃ a2 c2 w2,(Builtin.append_ #[t,t] t #[.slice oa m oc,.slice (some ⟨W.heap.size,0,none⟩) 1 1]).run Tryz.prog (W.alloc (.cells #[.slice l.a n l.c,.slice l.pa q l.pc] 53))=.ok (.slice a2 (m+1) c2) w2∧
   AccN N w a2 c2 (m+1) (ls++[l]) w2∧(∀ g cs,Lies W g 53 cs→oa≠some ⟨g,0,none⟩→Lies w2 g 53 cs∧a2≠some ⟨g,0,none⟩):=by
 have b1:=below_alloc W (.cells #[.slice l.a n l.c,.slice l.pa q l.pc] 53)
 have h1:=h.below s b1
 have rk:Row2 (W.alloc (.cells #[.slice l.a n l.c,.slice l.pa q l.pc] 53)) oa oc m (zaF ls):=by
  have:=h1.row.row
  rwa [h1.num] at this
 have rn:=zeX (V:=W) l n q hn hq
 obtain ⟨v2,w4,hr2,A2⟩:=zcJ t t hu oa oc m (zaF ls) _ rk ⟨W.heap.size,0,none⟩ 1 1 (zaF [l]) rfl (fun j u hj=>by
  obtain ⟨g',e',hc⟩:=rn.cell hj
  injection e' with e';injection e' with e';subst e'
  rw [Addr.add_lit,Nat.zero_add];exact hc) (zdD _) (by omega)
 obtain ⟨B2,F2⟩:=A2.below (B:=w.heap.size) h1.bel.size h1.own
 obtain ⟨a2,c2,rfl,r2,k2,f2⟩:=A2
 have F2:=F2 _ _ _ rfl
 have hlen:(ls++[l]).length=m+1:=by rw [List.length_append,h.num];rfl
 refine ⟨a2,c2,w4,hr2,⟨h1.bel.trans B2,⟨by rw [hlen,zf3];exact r2,fun p hp=>?_⟩,hlen,F2,fun p hp=>?_⟩,fun g cs lg hg=>⟨(lg.below b1 lg.lt).kept k2 hg,fun e=>?_⟩⟩
 ·rcases List.mem_append.1 hp with hp | hp
  ·exact zen rk k2 (h1.row.each p hp)
  ·obtain rfl:=List.mem_singleton.1 hp
   exact zen rk k2 ⟨hl.1.below b1,hl.2.below b1⟩
 ·rcases List.mem_append.1 hp with hp | hp
  ·exact s.kept rk k2 (h1.new p hp)
  ·obtain rfl:=List.mem_singleton.1 hp
   exact s.kept rk k2 (s.below hw b1)
 ·rcases f2 g e with h3 | h3
  ·exact hg h3
  ·have:=lg.lt
   have:=b1.size
   omega
end
set_option maxRecDepth 100000 in
theorem zrz {n m:Nat} (h:n*m≤100000000000):IntKind.i64.wrap ((n:Int)*(m:Int))=((n*m:Nat):Int):=by
 rw [←Int.natCast_mul]
 exact IntWalk.i64_in _ (by omega)
theorem zss {M:Mr} {s t:List Lin} (h:zam s=false∨zam t=false):zfi M s t=([],1,M):=by
 unfold zfi
 have:(zam s && zam t)=false:=by rcases h with h | h<;>simp [h]
 rw [this];rfl
theorem zul {M:Mr} {s t:List Lin} (h:zam s=true) (k:zam t=true) {p:Bool×Mr} (e:spendM M ((s.length*t.length:Nat):Int)=p) (hp:p.1=false):zfi M s t=([],7,p.2):=by
 unfold zfi
 rw [h,k,e,hp];rfl
theorem zum {M:Mr} {s t:List Lin} (h:zam s=true) (k:zam t=true) {p:Bool×Mr} (e:spendM M ((s.length*t.length:Nat):Int)=p) (hp:p.1=true) (c:zbD s t=false):zfi M s t=([],3,p.2):=by
 unfold zfi
 rw [h,k,e,hp,c];rfl
theorem zst {M:Mr} {s t:List Lin} (h:zam s=true) (k:zam t=true) {p:Bool×Mr} (e:spendM M ((s.length*t.length:Nat):Int)=p) (hp:p.1=true) (c:zbD s t=true):zfi M s t=(zmj s t,0,p.2):=by
 unfold zfi
 rw [h,k,e,hp,c];rfl
end Go.Proofs.YtmnkjekjknhhjaaGreatDoor
namespace Go.Proofs.YtmnkjekjknhhjaaGreatDoor
open Go.ChangeShapes Go.WideShapes Go.ChangeAt Go.RowKit
def zaK (s:List Lin):Bool:=s.all zb0
def zax (s:List Lin):List (List Int):=s.map Lin.base
def zbS (M:Mr) (s:List Lin):List Lin×Int×Mr:=
 if zam s && zaK s then (if (spendM M ((s.length:Nat):Int)).1 then ([zbh [] (zax s)],0,(spendM M ((s.length:Nat):Int)).2) else ([],7,(spendM M ((s.length:Nat):Int)).2)) else ([],1,M)
theorem zpL {M:Mr} {s:List Lin} (h:zam s=false∨zaK s=false):zbS M s=([],1,M):=by
 unfold zbS
 have:(zam s && zaK s)=false:=by rcases h with h | h<;>simp [h]
 rw [this];rfl
theorem zsV {M:Mr} {s:List Lin} (h:zam s=true) (k:zaK s=true) {p:Bool×Mr} (e:spendM M ((s.length:Nat):Int)=p) (hp:p.1=false):zbS M s=([],7,p.2):=by
 unfold zbS
 rw [h,k,e,hp];rfl
theorem zpM {M:Mr} {s:List Lin} (h:zam s=true) (k:zaK s=true) {p:Bool×Mr} (e:spendM M ((s.length:Nat):Int)=p) (hp:p.1=true):zbS M s=([zbh [] (zax s)],0,p.2):=by
 unfold zbS
 rw [h,k,e,hp];rfl
theorem zjf {s:List Lin}:zaK s=true↔∀ j,j<s.length→zb0 (zab s j)=true:=by
 unfold zaK
 rw [List.all_eq_true]
 constructor
 ·intro h j hj
  have e:zab s j=s[j]:=by simp [zab,List.getD,hj]
  rw [e];exact h _ (List.getElem_mem hj)
 ·intro h z hz
  obtain ⟨j,hj,rfl⟩:=List.getElem_of_mem hz
  have e:zab s j=s[j]:=by simp [zab,List.getD,hj]
  rw [←e];exact h j hj
theorem zmy {s:List Lin} {k:Nat} (hk:k<s.length):zax (s.take (k+1))=zax (s.take k)++[(zab s k).base]:=by
 rw [zgM hk];simp [zax]
theorem zlk {s:List Lin} (h:zdO s) (j:Nat):((zax s).getD j []).length≤1000:=by
 rw [List.getD_eq_getElem?_getD]
 by_cases hj:j<(zax s).length
 ·rw [List.getElem?_eq_getElem hj]
  have:(zax s)[j]∈zax s:=List.getElem_mem hj
  obtain ⟨x,hx,e⟩:=List.mem_map.1 this
  have h1:=(zac.1 (zai.1 (h x hx)).1).1
  simp only [Option.getD_some]
  rw [←e];omega
 ·rw [List.getElem?_eq_none (by omega)];exact Nat.zero_le _
structure AccB (w:World) (qa:Option Addr) (qc m:Nat) (qs:List Bg) (W:World):Prop where
 bel:Below w.heap.size w W
 row:Bgs W qa qc qs
 num:qs.length=m
 own:From w.heap.size qa
theorem AccB.nil (w:World):AccB w none 0 0 [] w:=⟨Below.refl _ _,Bgs.nil _,rfl,From.none _⟩
theorem AccB.below {w W W':World} {qa:Option Addr} {qc m:Nat} {qs:List Bg} (h:AccB w qa qc m qs W) (k:Below W.heap.size W W'):AccB w qa qc m qs W':=
 ⟨h.bel.trans (k.mono h.bel.size),h.row.below k,h.num,h.own⟩
theorem AccB.push {w W:World} {qa:Option Addr} {qc m:Nat} {qs:List Bg} (h:AccB w qa qc m qs W) {b:Option Addr} {d n:Nat} {ys:List Int} (R:Bag W b d ys) (hn:ys.length=n) (hm:m≤100000000000) :
  ∃ a2 c2 w2,(Builtin.append_ #[51,51] 51 #[.slice qa m qc,.slice (some ⟨W.heap.size,0,none⟩) 1 1]).run Tryz.prog (W.alloc (.cells #[.slice b n d] 31))=.ok (.slice a2 (m+1) c2) w2∧AccB w a2 c2 (m+1) (qs++[⟨b,d,ys⟩]) w2:=by
 obtain ⟨a2,c2,w2,hr,B2,K2,f2⟩:=zuZ qa qc m qs W h.row h.num b d n ys R hn hm
 obtain ⟨F2,b2⟩:=f2 w.heap.size h.bel.size h.own
 exact ⟨a2,c2,w2,hr,h.bel.trans b2,B2,by rw [List.length_append,h.num];rfl,F2⟩
end Go.Proofs.YtmnkjekjknhhjaaGreatDoor
