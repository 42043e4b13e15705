import Derived.Test.YtmnkjekjknhhjaaGreatDoorNm
import Derived.Test.YtmnkjekjknhhjaaGreatDoorNl
import Derived.Test.YtmnkjekjknhhjaaGreatDoorQCf
import Derived.Deep.RegionHeld3
import Derived.Deep.CutBlock
import Derived.Deep.DeepCutAuto
import Derived.Deep.CutRange
namespace Go.Proofs.YtmnkjekjknhhjaaGreatDoor
open Go.ChangeShapes Go.WideShapes Go.ChangeAt Go.RowKit
theorem zkm (tags:Int):∀ (A B:List Q.Nd) (i:Nat) (fl:List (Int×Bool)),Q.chkL tags i (A++B) fl=match Q.chkL tags i A fl with | none=>none | some fl'=>Q.chkL tags (i+A.length) B fl'
 | [],B,i,fl=>by simp [Q.chkL]
 | x::A,B,i,fl=>by
  have e:∀ L:List Q.Nd,Q.chkL tags i (x::L) fl=match Q.chkStep tags i x fl with | none=>none | some fl'=>Q.chkL tags (i+1) L fl':=fun _=>rfl
  rw [List.cons_append,e,e]
  cases Q.chkStep tags i x fl with
  | none=>rfl
  | some fl'=>
   show Q.chkL tags (i+1) (A++B) fl'=match Q.chkL tags (i+1) A fl' with | none=>none | some fl''=>Q.chkL tags (i+(x::A).length) B fl''
   rw [zkm tags A B (i+1) fl',List.length_cons,show i+1+A.length=i+(A.length+1) by omega]
theorem zln {es:List (List Lin)} {F:List (Int×Bool)} {p q:Int×Bool} {t:Nat} (h:Stk es (F++[p,q]) t) :
  ∃ u a b i j,u+a+b≤t∧Stk es F u∧p.1=((i:Nat):Int)∧i<es.length∧Good a (es.getD i [])∧q.1=((j:Nat):Int)∧j<es.length∧Good b (es.getD j []):=by
 obtain ⟨u,v,huv,hF,a,v',hav,⟨i,hi,hil,hg⟩,b,v'',hbv,⟨j,hj,hjl,hg'⟩,_⟩:=zib h
 exact ⟨u,a,b,i,j,by omega,hF,hi,hil,hg,hj,hjl,hg'⟩
theorem znE {es:List (List Lin)} {F:List (Int×Bool)} {p:Int×Bool} {t:Nat} (h:Stk es (F++[p]) t) :
  ∃ u a i,u+a≤t∧Stk es F u∧p.1=((i:Nat):Int)∧i<es.length∧Good a (es.getD i []):=by
 obtain ⟨u,v,huv,hF,a,v',hav,⟨i,hi,hil,hg⟩,_⟩:=zib h
 exact ⟨u,a,i,by omega,hF,hi,hil,hg⟩
theorem zeY {es:List (List Lin)} {fl:List (Int×Bool)} {k:Nat} {x:List Lin} {b:Bool} (h:Stk es fl k) (hl:es.length=k) (hk:k<24) (g:Good 1 x):Stk (es++[x]) (fl++[((k:Int),b)]) (k+1)∧Good 24 x:=by
 subst hl
 exact ⟨zkl (zkk x h) (zpN g),g.more (by omega)⟩
theorem zeZ {es:List (List Lin)} {F:List (Int×Bool)} {k u v:Nat} {x:List Lin} {b:Bool} (h:Stk es F u) (hl:es.length=k) (huv:u+v≤k+1) (hk:k<24) (g:Good v x):Stk (es++[x]) (F++[((k:Int),b)]) (k+1)∧Good 24 x:=by
 subst hl
 exact ⟨znD (zkl (zkk x h) (zpN g)) huv,g.more (by omega)⟩
theorem Tryz.infoSemi:(Tryz.prog.info? 24).map (fun i=>(i.zero,i.size,i.bytes))=some (some (.slice none 0 0),1,24):=by kernel_rfl
structure Sx where
 a:Option Addr
 c:Nat
 s:List Lin
def Sx.val (e:Sx):Value:=.slice e.a e.s.length e.c
def sxs (es:List Sx):List (List Lin):=es.map Sx.s
def sxv (es:List Sx):List Value:=es.map Sx.val
theorem zic (es:List Sx):(sxv es).length=es.length:=List.length_map ..
theorem zdx (es:List Sx):(sxs es).length=es.length:=List.length_map ..
theorem zjg {w:World} {T:TypeId} {mp:Option Addr} {M:Mr} (h:MrAt w T mp M) {e:TypeId} (hT:T≠e) {a:Option Addr} {c:Nat} {xs:List Value} (r:Row w e a c xs) {g:Nat} (e1:a=some ⟨g,0,none⟩):mp≠some ⟨g,0,none⟩:=by
 intro e2
 rcases h.form with h | ⟨b,h,cs,l⟩
 ·rw [h] at e2;cases e2
 ·rw [h] at e2;injection e2 with e2;injection e2 with e2;subst e2
  rcases r with ⟨h1,_⟩ | ⟨g1,sp,h1,_,_,l1⟩
  ·rw [h1] at e1;cases e1
  ·rw [h1] at e1;injection e1 with e1;injection e1 with e1;subst e1
   exact l.other l1 hT rfl
theorem Lins.keptOf {w w':World} {X:Nat→Prop} (k:Kept X w w') (hX:∀ g,X g→∃ T cs,Lies w g T cs∧MT T) {a:Option Addr} {c:Nat} {s:List Lin} (r:Lins w a c s):Lins w' a c s:=by
 have nb:∀ {a:Option Addr} {c:Nat} {xs:List Int},Bag w a c xs→∀ g,a=some ⟨g,0,none⟩→¬X g:=fun h g e x=>by
  obtain ⟨T,cs,l,m⟩:=hX g x
  rcases h with ⟨h1,_⟩ | ⟨g1,sp,h1,_,_,l1⟩
  ·rw [h1] at e;cases e
  ·rw [h1] at e;injection e with e;injection e with e;subst e
   exact l.other l1 m.1 rfl
 have nr:∀ {a:Option Addr} {c:Nat} {xs:List Value},Row w 31 a c xs→∀ g,a=some ⟨g,0,none⟩→¬X g:=fun h g e x=>by
  obtain ⟨T,cs,l,m⟩:=hX g x
  rcases h with ⟨h1,_⟩ | ⟨g1,sp,h1,_,_,l1⟩
  ·rw [h1] at e;cases e
  ·rw [h1] at e;injection e with e;injection e with e;subst e
   exact l.other l1 m.2.1 rfl
 have n2:∀ {a:Option Addr} {c n:Nat} {xs:List Value},Row2 w a c n xs→∀ g,a=some ⟨g,0,none⟩→¬X g:=fun h g e x=>by
  obtain ⟨T,cs,l,m⟩:=hX g x
  obtain ⟨_,h⟩:=h
  rcases h with ⟨h1,_⟩ | ⟨g1,sp,h1,_,_,_,l1⟩
  ·rw [h1] at e;cases e
  ·rw [h1] at e;injection e with e;injection e with e;subst e
   exact l.other l1 m.2.2 rfl
 obtain ⟨ls,e,P⟩:=r
 refine ⟨ls,e,P.row.kept k (n2 P.row),fun l hl=>?_⟩
 obtain ⟨h1,ps,e,R⟩:=P.each l hl
 exact ⟨h1.kept k (nb h1),ps,e,R.row.kept k (nr R.row),fun p hp=>(R.each p hp).kept k (nb (R.each p hp))⟩
structure NoSt (w:World) (mp la:Option Addr) (lc k:Nat) (es:List Sx) (fl:List (Int×Bool)) (M:Mr) (W:World):Prop where
 mks:MK mp w W
 row:Row W 24 la lc (sxv es)
 each:∀ e∈es,Lins W e.a e.c e.s
 num:es.length=k
 own:From w.heap.size la
 met:MrAt W 41 mp M
 some:M≠none
 stk:Stk (sxs es) fl k
 good:∀ e∈es,Good 24 e.s
theorem zrC:MT 41:=by unfold MT;decide
theorem NoSt.turn {w:World} {mp la:Option Addr} {lc k:Nat} {es:List Sx} {fl:List (Int×Bool)} {M M':Mr} {W W':World} (h:NoSt w mp la lc k es fl M W) (m:MK mp W W') (met:MrAt W' 41 mp M') (ne:M'≠none):NoSt w mp la lc k es fl M' W':=
 ⟨h.mks.and m,h.row.kept m (fun _ e=>zjg h.met (by decide) h.row e),fun e he=>(h.each e he).mk h.met zrC m,h.num,h.own,met,ne,h.stk,h.good⟩
theorem NoSt.below {w:World} {mp la:Option Addr} {lc k:Nat} {es:List Sx} {fl:List (Int×Bool)} {M:Mr} {W W':World} (h:NoSt w mp la lc k es fl M W) (b:Below W.heap.size W W'):NoSt w mp la lc k es fl M W':=
 ⟨h.mks.then b,h.row.below b,fun e he=>(h.each e he).below b,h.num,h.own,h.met.below b,h.some,h.stk,h.good⟩
theorem NoSt.at {w:World} {mp la:Option Addr} {lc k:Nat} {es:List Sx} {fl:List (Int×Bool)} {M:Mr} {W:World} (h:NoSt w mp la lc k es fl M W) {i:Nat} (hi:i<(sxs es).length) :
  ∃ g a c,la=Option.some ⟨g,0,none⟩∧g<W.heap.size∧W.cell? ⟨g,i,none⟩=Option.some (.slice a ((sxs es).getD i []).length c)∧Lins W a c ((sxs es).getD i []):=by
 have hi2:i<es.length:=by rwa [zdx] at hi
 have hi3:i<(sxv es).length:=by rw [zic];exact hi2
 obtain ⟨g,e,hc⟩:=h.row.there hi3
 have e1:(sxs es).getD i []=es[i].s:=by simp [sxs,List.getD,hi2]
 have e2:(sxv es)[i]=es[i].val:=by simp [sxv]
 rw [e2] at hc
 rw [e1]
 exact ⟨g,_,_,e,h.row.lt e,hc,h.each _ (List.getElem_mem hi2)⟩
set_option maxRecDepth 100000 in
theorem NoSt.push {w:World} {mp la:Option Addr} {lc k:Nat} {es:List Sx} {fl fl':List (Int×Bool)} {M:Mr} {W:World} (h:NoSt w mp la lc k es fl M W) (hk:k<24) (e:Sx) (q:Nat) (hq:e.s.length=q) (hl:Lins W e.a e.c e.s) (hs:Stk (sxs es++[e.s]) fl' (k+1)) (hg:Good 24 e.s) :
  ∃ a2 c2 w2,(Builtin.append_ #[100,100] 100 #[.slice la k lc,.slice (Option.some ⟨W.heap.size,0,none⟩) 1 1]).run Tryz.prog (W.alloc (.cells #[.slice e.a q e.c] 24))=.ok (.slice a2 (k+1) c2) w2∧NoSt w mp a2 c2 (k+1) (es++[e]) fl' M w2∧Kept (fun g=>la=Option.some ⟨g,0,none⟩) W w2:=by
 subst hq
 have b1:=below_alloc W (.cells #[.slice e.a e.s.length e.c] 24)
 have h1:=h.below b1
 have rn:Row (W.alloc (.cells #[.slice e.a e.s.length e.c] 24)) 24 (Option.some ⟨W.heap.size,0,none⟩) 1 [.slice e.a e.s.length e.c]:=.inr ⟨W.heap.size,[],rfl,rfl,by omega,Lies.new W 24 [.slice e.a e.s.length e.c]⟩
 obtain ⟨v,w2,hr,A⟩:=zjZ 100 100 24 Tryz.underlying100 Tryz.infoSemi la lc k (sxv es) _ h1.row (by rw [zic,h1.num]) (Option.some ⟨W.heap.size,0,none⟩) 1 1 [.slice e.a e.s.length e.c] rn rfl (fun u hu=>by obtain rfl:=List.mem_singleton.1 hu;rfl) (by rw [zic,h1.num];simp;omega)
 obtain ⟨a2,c2,rfl,r2,k2,f2⟩:=A
 rw [zic,h1.num] at hr
 have kx:Kept (fun g=>la=Option.some ⟨g,0,none⟩) (W.alloc (.cells #[.slice e.a e.s.length e.c] 24)) w2:=k2
 have hX:∀ g,la=Option.some ⟨g,0,none⟩→∃ T cs,Lies (W.alloc (.cells #[.slice e.a e.s.length e.c] 24)) g T cs∧MT T:=fun g eg=>by
  rcases h1.row with ⟨e0,_⟩ | ⟨g',sp,e0,_,_,l⟩
  ·rw [e0] at eg;cases eg
  ·rw [e0] at eg;injection eg with eg;injection eg with eg;subst eg
   exact ⟨_,_,l,by unfold MT;decide⟩
 have mk2:MK mp w w2:=h1.mks.trans kx (fun i hi eg=>by have:=h1.own i eg;omega)
 refine ⟨a2,c2,w2,hr,⟨mk2,by simpa [sxv,Sx.val] using r2,fun x hx=>?_,by rw [List.length_append,h.num];rfl,fun g eg=>?_,?_,h.some,by simpa [sxs] using hs,fun x hx=>?_⟩,(Kept.of_below (X:=fun g=>la=Option.some ⟨g,0,none⟩) b1).trans kx (fun _ _ e=>e)⟩
 ·rcases List.mem_append.1 hx with hx | hx
  ·exact (h1.each x hx).keptOf kx hX
  ·obtain rfl:=List.mem_singleton.1 hx
   exact (hl.below b1).keptOf kx hX
 ·rcases f2 g eg with h3 | h3
  ·exact h1.own g h3
  ·exact Nat.le_trans h1.mks.size h3
 ·have hm:=h1.met
  cases M with
  | none=>exact absurd rfl h.some
  | some p=>
   obtain ⟨B,S,o⟩:=p
   obtain ⟨g,eg,l,r⟩:=hm
   exact ⟨g,eg,l.kept kx (fun e2=>by
    rcases h1.row with ⟨e0,_⟩ | ⟨g',sp,e0,_,_,l2⟩
    ·rw [e0] at e2;cases e2
    ·rw [e0] at e2;injection e2 with e2;injection e2 with e2;subst e2
     exact Lies.other l l2 (by decide) rfl),r⟩
 ·rcases List.mem_append.1 hx with hx | hx
  ·exact h.good x hx
  ·obtain rfl:=List.mem_singleton.1 hx
   exact hg
theorem zaW {X:Nat→Prop} {w w':World} (k:Kept X w w') {p:Addr} (h:p.block<w.heap.size) (hx:¬X p.block):w'.cell? p=w.cell? p:=World.cell?_of_block (w:=w) (k.block p.block h hx)
end Go.Proofs.YtmnkjekjknhhjaaGreatDoor
