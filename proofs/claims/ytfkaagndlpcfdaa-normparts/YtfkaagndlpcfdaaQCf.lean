/- Contract of the reference's CheckPat, the walk; the condition: the nodes lie there. -/
import Derived.Test.YtfkaagndlpcfdaaQCe
namespace Go.Proofs.Ytfkaagndlpcfdaa.Q
open Go.ChangeShapes Go.WideShapes Go.ChangeAt Go.RowKit

theorem ret_bool {a b : Bool} (h : a = b) : Ending.returned (.bool a) = .returned (.bool b) := by rw [h]


def chkOut (w : World) (ns : List Nd) (tags : Int) (e : Ending) (w' : World) : Prop := e = .returned (.bool (chkB ns tags)) ∧ Below w.heap.size w w'


theorem made_bools (n : Nat) : madeCells #[Value.bool false] n = (bools (List.replicate n false)).toArray := by
  apply Array.ext
  · simp [madeCells, bools]
  · intro i h1 h2
    simp [madeCells, bools, Nat.mod_one]
end Go.Proofs.Ytfkaagndlpcfdaa.Q
