/- Plain words: pairs of a search as texts. -/
import Derived.Test.YtmnkjekjknhhjaaGreatDoorTk
namespace Go.Proofs.YtmnkjekjknhhjaaGreatDoor
open Go.ChangeShapes Go.WideShapes Go.ChangeAt Go.RowKit

end Go.Proofs.YtmnkjekjknhhjaaGreatDoor
