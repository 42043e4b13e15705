import Derived.Test.YtmefmnpmppdpmabDoorXb
/- The program's Has, over thin sets: the walk. -/
namespace Go.Proofs.YtmefmnpmppdpmabDoor
open Go.ChangeShapes Go.WideShapes Go.ChangeAt Go.RowKit

theorem mtP : MT 73 := by unfold MT; decide
theorem bag_mkP {w w' : World} {mp : Option Addr} {M : Mr} (h : MrAt w 73 mp M) (k : MK mp w w') {a : Option Addr} {c : Nat} {xs : List Int} (r : Bag w a c xs) : Bag w' a c xs :=
  r.kept k (fun _ e => bag_apartM h (by decide) r e)
end Go.Proofs.YtmefmnpmppdpmabDoor
