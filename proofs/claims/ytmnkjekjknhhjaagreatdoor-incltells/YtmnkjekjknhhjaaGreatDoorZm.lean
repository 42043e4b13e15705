import Derived.Test.YtmnkjekjknhhjaaGreatDoorZl
import Derived.Test.YtmnkjekjknhhjaaGreatDoorMe
import Derived.Test.YtmnkjekjknhhjaaGreatDoorSorz
namespace Go.Proofs.YtmnkjekjknhhjaaGreatDoor
open Go.ChangeShapes Go.WideShapes Go.ChangeAt Go.RowKit
structure Rl (w:World) where
 l:Lb
 mem:Bag w l.a l.c l.x.base∧Bags w l.pa l.pc l.x.ps
 right:rightLin l.x=true
instance (w:World):Inhabited (Rl w):=⟨⟨⟨none,0,none,0,⟨[],[]⟩⟩,⟨Bag.nil w,Bags.nil w⟩,za7⟩⟩
end Go.Proofs.YtmnkjekjknhhjaaGreatDoor
