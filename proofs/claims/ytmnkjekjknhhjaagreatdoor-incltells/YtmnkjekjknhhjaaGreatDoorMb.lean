import Derived.Test.YtmnkjekjknhhjaaGreatDoorL
import Derived.Test.YtmnkjekjknhhjaaGreatDoorHa
import Derived.Test.YtmnkjekjknhhjaaGreatDoorC
import Derived.Test.YtmnkjekjknhhjaaGreatDoorCd
import Derived.Deep.RegionHeld3
namespace Go.Proofs.YtmnkjekjknhhjaaGreatDoor
open Go.ChangeShapes Go.WideShapes Go.ChangeAt Go.RowKit
structure Lb where
 a:Option Addr
 c:Nat
 pa:Option Addr
 pc:Nat
 x:Lin
def Lb.cells (l:Lb):List Value:=[.slice l.a l.x.base.length l.c,.slice l.pa l.x.ps.length l.pc]
def zaF (ls:List Lb):List Value:=ls.flatMap Lb.cells
def lins (ls:List Lb):List Lin:=ls.map Lb.x
theorem zaG (ls:List Lb):(lins ls).length=ls.length:=List.length_map ..
theorem zh2:∀ ls:List Lb,(zaF ls).length=ls.length*2
 | []=>rfl
 | l::r=>by
  have e:zaF (l::r)=l.cells++zaF r:=rfl
  rw [e,List.length_append,zh2 r,List.length_cons]
  show 2+_=_
  omega
theorem zf3 (a b:List Lb):zaF (a++b)=zaF a++zaF b:=by simp [zaF]
theorem zh3:∀ (ls:List Lb) (k:Nat) (hk:k<ls.length) (i:Nat),i<2→(zaF ls)[k*2+i]? = (ls[k]).cells[i]?
 | [],_,hk,_,_=>by simp at hk
 | l::r,0,_,i,hi=>by
  have e:zaF (l::r)=l.cells++zaF r:=rfl
  rw [e,List.getElem?_append_left (by show 0*2+i<2;omega)]
  simp
 | l::r,k+1,hk,i,hi=>by
  have e:zaF (l::r)=l.cells++zaF r:=rfl
  rw [e,List.getElem?_append_right (by show 2≤_;omega)]
  have:=zh3 r k (by simpa using hk) i hi
  have e2:(k+1)*2+i-l.cells.length=k*2+i:=by show (k+1)*2+i-2=_;omega
  rw [e2,this]
  simp
theorem zdD (ls:List Lb):∀ x∈zaF ls,x.oneCell'=true:=fun x hx=>by
 obtain ⟨l,_,h⟩:=List.mem_flatMap.1 hx
 simp only [Lb.cells,List.mem_cons,List.not_mem_nil,or_false] at h
 rcases h with rfl | rfl<;>rfl
def Row2 (w:World) (a:Option Addr) (c n:Nat) (xs:List Value):Prop:=
 xs.length=n*2∧((a=none∧c=0∧n=0)∨∃ g sp,a=some ⟨g,0,none⟩∧c*2=xs.length+sp.length∧n≤c∧c≤9223372036854775807∧Lies w g 53 (xs++sp))
section
variable {w w':World} {a:Option Addr} {c n:Nat} {xs:List Value}
theorem Row2.nil (w:World):Row2 w none 0 0 []:=⟨rfl,.inl ⟨rfl,rfl,rfl⟩⟩
theorem Row2.kept {X:Nat→Prop} (h:Row2 w a c n xs) (k:Kept X w w') (hx:∀ g,a=some ⟨g,0,none⟩→¬X g):Row2 w' a c n xs:=by
 obtain ⟨h0,h⟩:=h
 rcases h with h | ⟨g,sp,e,h1,h2,h3,l⟩
 ·exact ⟨h0,.inl h⟩
 ·exact ⟨h0,.inr ⟨g,sp,e,h1,h2,h3,l.kept k (hx g e)⟩⟩
theorem Row2.below (h:Row2 w a c n xs) (k:Below w.heap.size w w'):Row2 w' a c n xs:=h.kept (X:=fun _=>False) (Kept.of_below k) (fun _ _ h=>h)
theorem Row2.lt (h:Row2 w a c n xs) {g:Nat} (e:a=some ⟨g,0,none⟩):g<w.heap.size:=by
 obtain ⟨_,h⟩:=h
 rcases h with ⟨h,_⟩ | ⟨g',sp,e',_,_,_,l⟩
 ·rw [h] at e;cases e
 ·rw [e'] at e;injection e with e;injection e with e;subst e;exact l.lt
theorem Row2.le (h:Row2 w a c n xs):n≤c∧c≤9223372036854775807:=by
 obtain ⟨_,h⟩:=h
 rcases h with ⟨_,h1,h2⟩ | ⟨_,_,_,_,h1,h2,_⟩
 ·omega
 ·exact ⟨h1,h2⟩
theorem Row2.form (h:Row2 w a c n xs):a=none∨∃ g,a=some ⟨g,0,none⟩:=by
 obtain ⟨_,h⟩:=h
 rcases h with ⟨e,_⟩ | ⟨g,_,e,_⟩
 ·exact .inl e
 ·exact .inr ⟨g,e⟩
theorem Row2.cell (h:Row2 w a c n xs) {j:Nat} {u:Value} (hj:xs[j]? = some u):∃ g,a=some ⟨g,0,none⟩∧w.cell? ⟨g,j,none⟩=some u:=by
 obtain ⟨h0,h⟩:=h
 rcases h with ⟨_,_,h2⟩ | ⟨g,sp,e,_,_,_,l⟩
 ·have:xs=[]:=List.eq_nil_of_length_eq_zero (by omega)
  rw [this] at hj;simp at hj
 ·refine ⟨g,e,?_⟩
  rw [l.cell,List.getElem?_append_left (List.getElem?_eq_some_iff.1 hj).1]
  exact hj
theorem Row2.own (h:Row2 w a c n xs):w.ownsRow 0 53 2 (.slice a n c) n xs:=by
 obtain ⟨h0,h⟩:=h
 refine ⟨h0,?_⟩
 rcases h with ⟨rfl,rfl,rfl⟩ | ⟨g,sp,rfl,h1,h2,h3,l⟩
 ·exact .inl ⟨rfl,rfl⟩
 ·refine .inr ⟨g,c,_,rfl,Nat.zero_le _,l,h2,by unfold maxLen;omega,?_,?_⟩
  ·simp;omega
  ·rw [←h0];simp
theorem zrv {v:Value} (h:w.ownsRow 0 53 2 v n xs):∃ a c,v=.slice a n c∧Row2 w a c n xs:=by
 obtain ⟨hl,h⟩:=h
 rcases h with ⟨rfl,rfl⟩ | ⟨g,cap,cur,rfl,_,hh,hn,hm,hs,ht⟩
 ·obtain rfl:xs=[]:=List.eq_nil_of_length_eq_zero (by omega)
  exact ⟨none,0,rfl,Row2.nil w⟩
 ·unfold maxLen at hm
  refine ⟨_,_,rfl,hl,.inr ⟨g,cur.toList.drop (n*2),rfl,?_,hn,by omega,(zc8 hh).to ?_⟩⟩
  ·have h1:cur.toList.length=cap*2:=by simpa using hs
   rw [List.length_drop,h1,hl];omega
  ·rw [←ht,List.take_append_drop]
end
theorem Tryz.infoLin:(Tryz.prog.info? 53).map (fun i=>(i.zero,i.size,i.bytes))=some (some (.agg #[.slice none 0 0,.slice none 0 0]),2,48):=by kernel_rfl
def Appends2 (a:Option Addr) (n m:Nat) (xs ys:List Value) (w:World) (v:Value) (w':World):Prop:=
 ∃ a' c',v=.slice a' (n+m) c'∧Row2 w' a' c' (n+m) (xs++ys)∧Kept (fun g=>a=some ⟨g,0,none⟩) w w'∧∀ g,a'=some ⟨g,0,none⟩→a=some ⟨g,0,none⟩∨w.heap.size≤g
theorem Appends2.below {a:Option Addr} {n m:Nat} {xs ys:List Value} {w w':World} {v:Value} (h:Appends2 a n m xs ys w v w') {B:Nat} (hB:B≤w.heap.size) (hf:From B a):Below B w w'∧∀ a' k c',v=.slice a' k c'→From B a':=by
 obtain ⟨a',c',rfl,r,k,f⟩:=h
 refine ⟨k.below (fun g e=>hf g e) hB,fun a2 n c2 e g h=>?_⟩
 injection e with e
 subst e
 rcases f g h with h | h
 ·exact hf g h
 ·omega
theorem zcJ (t ty:TypeId) (hu:Tryz.prog.underlying t=some (.slice 53))
  (a:Option Addr) (c n:Nat) (xs:List Value) (w:World) (R:Row2 w a c n xs) (ad:Addr) (m d:Nat) (ys:List Value) (hm:ys.length=m*2) (hc:∀ j u,ys[j]? = some u→w.cell? (ad.add j)=some u) (h1:∀ u∈ys,u.oneCell'=true) (hb:n+m≤1000000000000) :
  ∃ v w',(Builtin.append_ #[t,t] ty #[.slice a n c,.slice (some ad) m d]).run Tryz.prog w=.ok v w'∧Appends2 a n m xs ys w v w':=by
 obtain ⟨i,hi,hz,hsz,hby⟩:=info_parts Tryz.infoLin
 have hform:=R.form
 have hx:=R.1
 obtain ⟨v',w',hr,h2,h3,_,h5⟩:=run_append_own_at (P:=Tryz.prog) w 0 t ty 53 i _ 2 48 hu hi hz hsz hby (by simp [Value.cells]) (by omega) _ n xs R.own
  ad m d ys hm hc h1 (by unfold maxLen;omega) (by omega) (Nat.zero_le _)
 obtain ⟨a',c',rfl,r'⟩:=zrv h2
 refine ⟨_,w',hr,a',c',rfl,r',?_,fun g e=>?_⟩
 ·refine ⟨h3.os,h3.tape,h3.output,h3.size,fun g hg hx=>h3.block g hg (fun e=>?_)⟩
  obtain ⟨x,rfl,hx'⟩:=(ownBlock_slice a _ _ g).1 e.symm
  rcases hform with h | ⟨g',h⟩
  ·cases h
  ·injection h with h;subst h;subst hx';exact hx rfl
 ·subst e
  rcases h5 with h5 | h5
  ·obtain ⟨x,rfl,hx⟩:=(ownBlock_slice a n c g).1 (by rw [←h5];rfl)
   rcases hform with h | ⟨g',h⟩
   ·cases h
   ·injection h with h;subst h;subst hx;exact .inl rfl
  ·have:g=w.heap.size:=by simpa [Value.ownBlock] using h5
   exact .inr (by omega)
theorem zel (t ty:TypeId) (hu:Tryz.prog.underlying t=some (.slice 53)) (a:Option Addr) (c n:Nat) (xs:List Value) (w:World) (R:Row2 w a c n xs) :
  ∃ v w',(Builtin.append_ #[t,t] ty #[.slice a n c,.slice none 0 0]).run Tryz.prog w=.ok v w'∧Appends2 a n 0 xs [] w v w':=by
 obtain ⟨i,hi,hz,hsz,hby⟩:=info_parts Tryz.infoLin
 refine ⟨_,_,run_append_owned_none (w:=w) 0 t ty 53 i 2 hu hi _ n xs R.own,a,c,by simp,by simpa using R,Kept.refl _ _,fun g e=>.inl e⟩
structure Lbs (w:World) (a:Option Addr) (c:Nat) (ls:List Lb):Prop where
 row:Row2 w a c ls.length (zaF ls)
 each:∀ l∈ls,Bag w l.a l.c l.x.base∧Bags w l.pa l.pc l.x.ps
def Lins (w:World) (a:Option Addr) (c:Nat) (s:List Lin):Prop:=∃ ls,lins ls=s∧Lbs w a c ls
section
variable {w w':World} {a:Option Addr} {c:Nat} {ls:List Lb} {s:List Lin}
theorem Lbs.nil (w:World):Lbs w none 0 []:=⟨Row2.nil w,fun l h=>by simp at h⟩
theorem Lbs.below (h:Lbs w a c ls) (k:Below w.heap.size w w'):Lbs w' a c ls:=⟨h.row.below k,fun l hl=>⟨(h.each l hl).1.below k,(h.each l hl).2.below k⟩⟩
theorem Lins.nil (w:World):Lins w none 0 []:=⟨[],rfl,Lbs.nil w⟩
theorem Lins.below (h:Lins w a c s) (k:Below w.heap.size w w'):Lins w' a c s:=by
 obtain ⟨ls,e,h⟩:=h
 exact ⟨ls,e,h.below k⟩
theorem Lins.le (h:Lins w a c s):s.length≤c∧c≤9223372036854775807:=by
 obtain ⟨ls,rfl,h⟩:=h
 rw [zaG]
 exact h.row.le
theorem Lins.lt (h:Lins w a c s) {g:Nat} (e:a=some ⟨g,0,none⟩):g<w.heap.size:=by
 obtain ⟨ls,_,h⟩:=h
 exact h.row.lt e
theorem Lbs.at (h:Lbs w a c ls) {k:Nat} (hk:k<ls.length):∃ g,a=some ⟨g,0,none⟩∧w.cell? ⟨g,k*2,none⟩=some (.slice (ls[k]).a (ls[k]).x.base.length (ls[k]).c)∧w.cell? ⟨g,k*2+1,none⟩=some (.slice (ls[k]).pa (ls[k]).x.ps.length (ls[k]).pc)∧
  Bag w (ls[k]).a (ls[k]).c (ls[k]).x.base∧Bags w (ls[k]).pa (ls[k]).pc (ls[k]).x.ps:=by
 have f0:=zh3 ls k hk 0 (by omega)
 have f1:=zh3 ls k hk 1 (by omega)
 obtain ⟨g,e0,c0⟩:=h.row.cell (j:=k*2+0) (u:=.slice (ls[k]).a (ls[k]).x.base.length (ls[k]).c) (by rw [f0];rfl)
 obtain ⟨g',e1,c1⟩:=h.row.cell (j:=k*2+1) (u:=.slice (ls[k]).pa (ls[k]).x.ps.length (ls[k]).pc) (by rw [f1];rfl)
 rw [e0] at e1
 injection e1 with e1;injection e1 with e1;subst e1
 exact ⟨g,e0,c0,c1,h.each _ (List.getElem_mem hk)⟩
def zab (s:List Lin) (k:Nat):Lin:=s.getD k ⟨[],[]⟩
theorem Lins.at (h:Lins w a c s) {k:Nat} (hk:k<s.length):∃ g b d pb pd,a=some ⟨g,0,none⟩∧w.cell? ⟨g,k*2,none⟩=some (.slice b (zab s k).base.length d)∧w.cell? ⟨g,k*2+1,none⟩=some (.slice pb (zab s k).ps.length pd)∧
  Bag w b d (zab s k).base∧Bags w pb pd (zab s k).ps:=by
 obtain ⟨ls,rfl,h⟩:=h
 rw [zaG] at hk
 have e:zab (lins ls) k=(ls[k]).x:=by simp [zab,lins,List.getD,hk]
 obtain ⟨g,h1,h2,h3,h4,h5⟩:=h.at hk
 rw [e]
 exact ⟨g,_,_,_,_,h1,h2,h3,h4,h5⟩
end
end Go.Proofs.YtmnkjekjknhhjaaGreatDoor
namespace Go.Proofs.YtmnkjekjknhhjaaGreatDoor
open Go.ChangeShapes Go.WideShapes Go.ChangeAt Go.RowKit
end Go.Proofs.YtmnkjekjknhhjaaGreatDoor
