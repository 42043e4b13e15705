import Derived.Test.YtmnkjekjknhhjaaGreatDoorNb
import Derived.Test.YtmnkjekjknhhjaaGreatDoorZm
import Derived.Test.YtmnkjekjknhhjaaGreatDoorEe
import Derived.Lib.SliceRun
import Derived.Test.YtmnkjekjknhhjaaGreatDoorEg
namespace Go.Proofs.YtmnkjekjknhhjaaGreatDoor
open Go.ChangeShapes Go.WideShapes Go.ChangeAt Go.RowKit
end Go.Proofs.YtmnkjekjknhhjaaGreatDoor
namespace Go.Proofs.YtmnkjekjknhhjaaGreatDoor
open Go.ChangeShapes Go.WideShapes Go.ChangeAt Go.RowKit
def zuk (w:World) (B:Nat) (l:Lb):Prop:=From B l.a∧From B l.pa∧∃ ps,zd6 ps=l.x.ps∧Bgs w l.pa l.pc ps∧∀ p∈ps,From B p.a
structure AccSt (w:World) (oa:Option Addr) (oc m:Nat) (ls:List Lb) (W:World):Prop where
 bel:Below w.heap.size w W
 row:Lbs W oa oc ls
 num:ls.length=m
 own:From w.heap.size oa
 new:∀ l∈ls,zuk W w.heap.size l
end Go.Proofs.YtmnkjekjknhhjaaGreatDoor
namespace Go.Proofs.YtmnkjekjknhhjaaGreatDoor
open Go.ChangeShapes Go.WideShapes Go.ChangeAt Go.RowKit
theorem zrx (t ty:TypeId) (hu:Tryz.prog.underlying t=some (.slice 53)) (a:Option Addr) (c n:Nat) (xs:List Value) (w:World) (R:Row2 w a c n xs) (b:Option Addr) (d m:Nat) (ys:List Value) (R':Row2 w b d m ys) (h1:∀ u∈ys,u.oneCell'=true) (hb:n+m≤1000000000000) :
  ∃ v w',(Builtin.append_ #[t,t] ty #[.slice a n c,.slice b m d]).run Tryz.prog w=.ok v w'∧Appends2 a n m xs ys w v w':=by
 obtain ⟨h0,h⟩:=R'
 rcases h with ⟨rfl,rfl,rfl⟩ | ⟨g,sp,rfl,_,_,_,l⟩
 ·obtain rfl:ys=[]:=List.eq_nil_of_length_eq_zero (by omega)
  exact zel t ty hu a c n xs w R
 ·exact zcJ t ty hu a c n xs w R _ m d ys h0 (fun j u hj=>by rw [Addr.add_lit,Nat.zero_add,l.cell,List.getElem?_append_left (List.getElem?_eq_some_iff.1 hj).1];exact hj) h1 hb
theorem zsU (w:World):Calls Tryz.prog 34 #[] w (fun e w'=>∃ a c,e=.returned (.slice a 1 c)∧AccSt w a c 1 [⟨none,0,none,0,⟨[],[]⟩⟩] w'):=by
 have HF:Hid (AccSt w (some ⟨w.heap.size,0,none⟩) 1 1 [⟨none,0,none,0,⟨[],[]⟩⟩] (w.alloc (.cells #[.slice none 0 0,.slice none 0 0] 53))):=dq ⟨below_alloc _ _,⟨zeX (V:=w) ⟨none,0,none,0,⟨[],[]⟩⟩ 0 0 rfl rfl,fun l h=>by
  obtain rfl:=List.mem_singleton.1 h
  exact ⟨Bag.nil _,Bags.nil _⟩⟩,rfl,fun g e=>by injection e with e;injection e with e;omega,fun l h=>by
  obtain rfl:=List.mem_singleton.1 h
  exact ⟨From.none _,From.none _,[],rfl,Bgs.nil _,fun p h=>by simp at h⟩⟩
 go_enter Tryz.func34,Tryz.ntmps34
 go_wp2
 go_ret
 exact ⟨_,_,rfl,HF.out⟩
end Go.Proofs.YtmnkjekjknhhjaaGreatDoor
