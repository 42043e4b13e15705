import Derived.Test.YtmnkjekjknhhjaaGreatDoorTk
import Derived.Test.YtmnkjekjknhhjaaGreatDoorOc
import Derived.Test.YtmnkjekjknhhjaaGreatDoorTq
namespace Go.Proofs.YtmnkjekjknhhjaaGreatDoor
open Go.ChangeShapes Go.WideShapes Go.ChangeAt Go.RowKit
def zkJ:List (List Int)→List Nat→Nat→Int
 | [],_,_=>0
 | _::_,[],_=>0
 | p::r,n::q,t=>(n:Int)*p.getD t 0+zkJ r q t
theorem zlK (w:List Int) (d t:Nat):(zaJ w d).getD t 0=w.getD t 0/2 ^ d:=by
 unfold zaJ
 rw [List.getD_eq_getElem?_getD,List.getD_eq_getElem?_getD,List.getElem?_map]
 cases w[t]? with
 | none=>simp
 | some v=>rfl
theorem zoI {w c:List Int} (hw:zaa w=true) {d:Nat} (hd:d≤62) (h:∀ t,c.getD t 0 % 2=w.getD t 0/2 ^ d % 2):zao c=letterN w (d:Int):=by
 unfold letterN zao
 rw [if_pos ⟨hw,by omega,by omega⟩,Int.toNat_natCast]
 exact ze6 (fun t=>by rw [zlK];exact h t)
end Go.Proofs.YtmnkjekjknhhjaaGreatDoor
namespace Go.Proofs.YtmnkjekjknhhjaaGreatDoor
open Go.ChangeShapes Go.WideShapes Go.ChangeAt Go.RowKit
theorem zlL {w:List Int} (hw:zaa w=true) {d:Nat} (hd:d≤62) (t:Nat):letterN w (d:Int)/2 ^ t % 2=w.getD t 0/2 ^ d % 2:=by
 unfold letterN
 rw [if_pos ⟨hw,by omega,by omega⟩,Int.toNat_natCast,zdJ,zlK]
theorem zir {s:List Lin} (hs:Thin s):∀ {k:Nat},k≤s.length→∀ x∈zcR s k,ItOk s x:=by
 intro k hk x hx
 obtain ⟨i,hi,rfl⟩:=List.mem_map.1 hx
 rw [List.mem_range] at hi
 exact zrR hs (by omega)
end Go.Proofs.YtmnkjekjknhhjaaGreatDoor
