import Derived.Test.YtmnkjekjknhhjaaGreatDoorCd
import Derived.Test.YtmnkjekjknhhjaaGreatDoorSorz
namespace Go.Proofs.YtmnkjekjknhhjaaGreatDoor
open Go.ChangeShapes Go.WideShapes Go.ChangeAt Go.RowKit
theorem zvc {w w':World} (h:Z.Below w.heap.size w w'):∃ q os',w'=Sort.grow (w.drewN q) os':=by
 refine ⟨w'.drawn-w.drawn,w'.heap.extract w.heap.size w'.heap.size,?_⟩
 obtain ⟨⟨h1,h2,h3,h4,h5⟩,h6⟩:=h
 have hd:w'.drawn=w.drawn+(w'.drawn-w.drawn):=by omega
 have hh:w'.heap=w.heap++w'.heap.extract w.heap.size w'.heap.size:=by
  apply Array.ext_getElem?
  intro k
  by_cases hk:k<w.heap.size
  ·rw [h5 k hk,Array.getElem?_append_left hk]
  ·rw [Array.getElem?_append_right (by omega),Array.getElem?_extract]
   by_cases hk2:k<w'.heap.size
   ·rw [if_pos (by omega)]
    congr 1
    omega
   ·rw [if_neg (by omega),Array.getElem?_eq_none (by omega)]
 cases w
 cases w'
 simp only [Sort.grow,World.drewN] at *
 subst h1 h2 h3
 rw [←hd,←hh]
theorem zmf {α:Type} [Inhabited α] (enc:α→Value) (w:World) (blk off m:Nat) (dk:Array α) (os:Array Obj) :
  Kept (fun g=>(some ⟨blk,0,none⟩:Option Addr)=some ⟨g,0,none⟩) w (sortWorld enc w blk off m dk os):=by
 refine ⟨rfl,rfl,rfl,?_,?_⟩
 ·show w.heap.size≤(Sort.grow _ os).heap.size
  rw [Sort.size_grow,Sort.size_putRow]
  exact Nat.le_add_right _ _
 ·intro k hk hx
  have hne:blk≠k:=fun e=>hx (by rw [e])
  show (Sort.grow _ os).heap[k]? = _
  rw [Sort.heap_grow_old _ _ (by rw [Sort.size_putRow];exact hk)]
  show (w.heap.modify blk _)[k]? = _
  rw [Array.getElem?_modify,if_neg hne]
theorem zmg {α:Type} [Inhabited α] (enc:α→Value) (d:Array α) (xs sp:List Value) (h:xs.length=d.size) :
  Sort.putCells enc 0 d (xs++sp).toArray=(d.toList.map enc++sp).toArray:=by
 apply Array.ext_getElem?
 intro k
 simp only [Sort.putCells,Array.getElem?_mapIdx,List.getElem?_toArray,List.getElem?_append,List.length_map,Array.length_toList,h]
 by_cases hk:k<d.size
 ·have hk':k<xs.length:=by omega
  simp [hk,hk']
 ·simp only [hk,if_false]
  cases sp[k-d.size]? with
  | none=>rfl
  | some u=>simp [hk]
theorem zq4 {α:Type} [Inhabited α] (enc:α→Value) {w:World} {blk:Nat} {t:TypeId} {xs sp:List Value} (l:Lies w blk t (xs++sp)) (m:Nat) (d:Array α) (os:Array Obj) (h:xs.length=d.size) :
  Lies (sortWorld enc w blk 0 m d os) blk t (d.toList.map enc++sp):=by
 show (Sort.grow _ os).heap[blk]? = _
 rw [Sort.heap_grow_old _ _ (by rw [Sort.size_putRow];exact l.lt)]
 show (w.heap.modify blk _)[blk]? = _
 rw [Array.getElem?_modify,if_pos rfl]
 unfold Lies at l
 rw [l]
 show some (Obj.cells (Sort.putCells enc 0 d (xs++sp).toArray) t (0,0))=_
 rw [zmg enc d xs sp h]
theorem zmh {α:Type} [Inhabited α] (enc:α→Value) {w:World} {blk:Nat} {t:TypeId} {sp:List Value} (d:Array α) (l:Lies w blk t (d.toList.map enc++sp)):Sort.Holds enc w blk 0 d:=by
 intro j hj
 rw [Nat.zero_add]
 refine ⟨?_,l.frozen j⟩
 rw [l.cell,List.getElem?_append_left (by simpa using hj)]
 simp [hj]
theorem zsk {α:Type} [Inhabited α] {d d':Array α} (h:Sort.PermIn 0 d.size d d'):d'.toList.Perm d.toList:=by
 obtain ⟨h1,_,h3⟩:=h
 have e1:d'.extract 0 d.size=d':=by rw [←h1];exact Array.extract_size
 have e2:d.extract 0 d.size=d:=Array.extract_size
 rw [e1,e2] at h3
 exact h3
section bags
structure Rb (w:World) where
 p:Bg
 bag:Bag w p.a p.c p.xs
 right:zaa p.xs=true
instance (w:World):Inhabited (Rb w):=⟨⟨bg0,Bag.nil w,zef⟩⟩
end bags
end Go.Proofs.YtmnkjekjknhhjaaGreatDoor
namespace Go.Proofs.YtmnkjekjknhhjaaGreatDoor
open Go.ChangeShapes Go.WideShapes Go.ChangeAt Go.RowKit
def zu2 (w:World) (e:Ending) (w':World):Prop:=∃ v:Int,e=.returned (.int .i64 v)∧w=w'
set_option maxRecDepth 100000 in
theorem zq5 (w:World):Calls Tryz.prog 108 #[.int .u64 0] w (zu2 w):=by
 go_enter Tryz.func108,Tryz.ntmps108
 go_wp2
 go_ret
 exact ⟨_,rfl,rfl⟩
set_option maxRecDepth 100000 in
theorem zt8 (w:World):Calls Tryz.prog 73 #[.int .u64 0] w (zu2 w):=by
 have HZ:=dq (zq5 w)
 go_enter Tryz.func73,Tryz.ntmps73
 go_wp2_with (fail)
 refine HZ.out.mono ?_
 rintro e w' ⟨v,rfl,rfl⟩
 go_wp2
 go_ret
 exact ⟨_,rfl,rfl⟩
def zuc (w:World) (e:Ending) (w':World):Prop:=e=.returned (.tuple #[])∧w=w'
end Go.Proofs.YtmnkjekjknhhjaaGreatDoor
