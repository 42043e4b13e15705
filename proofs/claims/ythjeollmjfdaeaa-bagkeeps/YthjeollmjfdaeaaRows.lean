/-
  No cell of these rows narrows 'for every input' (looked for: loops, veiled, ifaces, maps, wideKeys, modest, calm, conditions, laid).
  DERIVED. THE GIVEN ROWS OF THIS SEAT. 6 by the template 'for every input the law returns true; each argument reads behind the call as it read before'; 0 by the template 'total and deterministic' (their statements: YthjeollmjfdaeaaTotals.lean).
  GIVEN WITH THE SEED: the statements are not yours to turn. If you find one false, say at which input.
  Laid BY PROGRAM, IN A SANDBOX (cutbox-rows.mjs): the forced cells as the released guide's own fill.sh prints them over the translation 86e3bfc38a62330b… (all of the seat's roots in one cut). By AI agents, Wed Nov 11 2026. No macro, syntax, notation, axiom, sorry.
-/
import Derived.Test.YthjeollmjfdaeaaChecked
import GoSem.Claim
import GoSem.ClaimJoined
import GoSem.ClaimMapViews
import Derived.JoinedTies
import Derived.KernelRfl
namespace Go.Proofs.Ythjeollmjfdaeaa
/- THE CELL 'sum', in the pinned program and in every row, IS THE sha256 OF THE DUMP (.gsa) THAT YthjeollmjfdaeaaProg.lean LOADS. Nothing in Lean hashes anything: it is a label: what it is worth is what the hold of that sum in a sandbox is worth. -/
noncomputable def Try.pinned : Pinned := { name := "ythjeollmjfdaeaa", sum := "86e3bfc38a62330b34c2bcd994957d48cb4d7a78e35891706e9ad2a313d3d0c3", checked := Try.checked }
namespace Rows
def none {H : Type} : Left H := { results := [], args := [] }

/-- 'columbarylaw03.BagTells': WHATEVER THE INPUT: true; the input reads as it did. -/
def bagTellsSpec : ChangeSpec := { name := "bagTells", fn := fun _ => fun
  | [d1, d2] => { results := [.lit (.bool true)], args := [d1, d2] }
  | _ => none }
def bagTellsRow : OpenClaim := { program := "ythjeollmjfdaeaa", sum := "86e3bfc38a62330b34c2bcd994957d48cb4d7a78e35891706e9ad2a313d3d0c3", func := "columbary/columbarylaw03.BagTells", spec := "bagTells", apart := false }
def BagTellsSaid : Prop := bagTellsRow.holds Try.pinned (OpenSpec.ofChange bagTellsSpec)

/-- ITS FALSE NEIGHBOUR: 'it returns false'. Refute it at one input. -/
def bagTellsWrong : ChangeSpec := { name := "bagTells", fn := fun _ => fun
  | [d1, d2] => { results := [.lit (.bool false)], args := [d1, d2] }
  | _ => none }
def BagTellsWrongFalsely : Prop := bagTellsRow.holds Try.pinned (OpenSpec.ofChange bagTellsWrong)

/-- 'columbarylaw03.BagOne': WHATEVER THE INPUT: true; the input reads as it did. -/
def bagOneSpec : ChangeSpec := { name := "bagOne", fn := fun _ => fun
  | [d1, d2] => { results := [.lit (.bool true)], args := [d1, d2] }
  | _ => none }
def bagOneRow : OpenClaim := { program := "ythjeollmjfdaeaa", sum := "86e3bfc38a62330b34c2bcd994957d48cb4d7a78e35891706e9ad2a313d3d0c3", func := "columbary/columbarylaw03.BagOne", spec := "bagOne", apart := false }
def BagOneSaid : Prop := bagOneRow.holds Try.pinned (OpenSpec.ofChange bagOneSpec)

/-- ITS FALSE NEIGHBOUR: 'it returns false'. Refute it at one input. -/
def bagOneWrong : ChangeSpec := { name := "bagOne", fn := fun _ => fun
  | [d1, d2] => { results := [.lit (.bool false)], args := [d1, d2] }
  | _ => none }
def BagOneWrongFalsely : Prop := bagOneRow.holds Try.pinned (OpenSpec.ofChange bagOneWrong)

/-- 'columbarylaw03.BagLaws': WHATEVER THE INPUT: true; the input reads as it did. -/
def bagLawsSpec : ChangeSpec := { name := "bagLaws", fn := fun _ => fun
  | [d1, d2, d3] => { results := [.lit (.bool true)], args := [d1, d2, d3] }
  | _ => none }
def bagLawsRow : OpenClaim := { program := "ythjeollmjfdaeaa", sum := "86e3bfc38a62330b34c2bcd994957d48cb4d7a78e35891706e9ad2a313d3d0c3", func := "columbary/columbarylaw03.BagLaws", spec := "bagLaws", apart := false }
def BagLawsSaid : Prop := bagLawsRow.holds Try.pinned (OpenSpec.ofChange bagLawsSpec)

/-- ITS FALSE NEIGHBOUR: 'it returns false'. Refute it at one input. -/
def bagLawsWrong : ChangeSpec := { name := "bagLaws", fn := fun _ => fun
  | [d1, d2, d3] => { results := [.lit (.bool false)], args := [d1, d2, d3] }
  | _ => none }
def BagLawsWrongFalsely : Prop := bagLawsRow.holds Try.pinned (OpenSpec.ofChange bagLawsWrong)

/-- 'columbarylaw03.BagOrder': WHATEVER THE INPUT: true; the input reads as it did. -/
def bagOrderSpec : ChangeSpec := { name := "bagOrder", fn := fun _ => fun
  | [d1, d2, d3] => { results := [.lit (.bool true)], args := [d1, d2, d3] }
  | _ => none }
def bagOrderRow : OpenClaim := { program := "ythjeollmjfdaeaa", sum := "86e3bfc38a62330b34c2bcd994957d48cb4d7a78e35891706e9ad2a313d3d0c3", func := "columbary/columbarylaw03.BagOrder", spec := "bagOrder", apart := false }
def BagOrderSaid : Prop := bagOrderRow.holds Try.pinned (OpenSpec.ofChange bagOrderSpec)

/-- ITS FALSE NEIGHBOUR: 'it returns false'. Refute it at one input. -/
def bagOrderWrong : ChangeSpec := { name := "bagOrder", fn := fun _ => fun
  | [d1, d2, d3] => { results := [.lit (.bool false)], args := [d1, d2, d3] }
  | _ => none }
def BagOrderWrongFalsely : Prop := bagOrderRow.holds Try.pinned (OpenSpec.ofChange bagOrderWrong)

/-- 'columbarylaw03.BagTake': WHATEVER THE INPUT: true; the input reads as it did. -/
def bagTakeSpec : ChangeSpec := { name := "bagTake", fn := fun _ => fun
  | [d1, d2] => { results := [.lit (.bool true)], args := [d1, d2] }
  | _ => none }
def bagTakeRow : OpenClaim := { program := "ythjeollmjfdaeaa", sum := "86e3bfc38a62330b34c2bcd994957d48cb4d7a78e35891706e9ad2a313d3d0c3", func := "columbary/columbarylaw03.BagTake", spec := "bagTake", apart := false }
def BagTakeSaid : Prop := bagTakeRow.holds Try.pinned (OpenSpec.ofChange bagTakeSpec)

/-- ITS FALSE NEIGHBOUR: 'it returns false'. Refute it at one input. -/
def bagTakeWrong : ChangeSpec := { name := "bagTake", fn := fun _ => fun
  | [d1, d2] => { results := [.lit (.bool false)], args := [d1, d2] }
  | _ => none }
def BagTakeWrongFalsely : Prop := bagTakeRow.holds Try.pinned (OpenSpec.ofChange bagTakeWrong)

/-- 'columbarylaw03.BagKeeps': WHATEVER THE INPUT: true; the input reads as it did. -/
def bagKeepsSpec : ChangeSpec := { name := "bagKeeps", fn := fun _ => fun
  | [d1, d2] => { results := [.lit (.bool true)], args := [d1, d2] }
  | _ => none }
def bagKeepsRow : OpenClaim := { program := "ythjeollmjfdaeaa", sum := "86e3bfc38a62330b34c2bcd994957d48cb4d7a78e35891706e9ad2a313d3d0c3", func := "columbary/columbarylaw03.BagKeeps", spec := "bagKeeps", apart := false }
def BagKeepsSaid : Prop := bagKeepsRow.holds Try.pinned (OpenSpec.ofChange bagKeepsSpec)

/-- ITS FALSE NEIGHBOUR: 'it returns false'. Refute it at one input. -/
def bagKeepsWrong : ChangeSpec := { name := "bagKeeps", fn := fun _ => fun
  | [d1, d2] => { results := [.lit (.bool false)], args := [d1, d2] }
  | _ => none }
def BagKeepsWrongFalsely : Prop := bagKeepsRow.holds Try.pinned (OpenSpec.ofChange bagKeepsWrong)

/- THE SECOND FORM. 'bulk': how many values and letters a reading holds, each counted each time it is reached (what is shared counts as often as it is met; a slice's spare places count too). A statement '..UptoSaid' is the law's where the arguments, and the package variables that the reading takes, are together of bulk at most 1048576: NARROWER than '..Said'. Prove '..Said' where nothing that the law and all that it calls make is longer than what came in: it says more and counts as full. Else prove '..UptoSaid'. A law counts once. -/
mutual
def uptoBulk {H : Type} : DataW H → Nat
  | .lit (.string bytes) => bytes.length + 1
  | .lit _ => 1
  | .nil => 1
  | .ptr d => uptoBulk d + 1
  | .slice elems spare => uptoBulkAll elems + uptoBulkAll spare + 1
  | .agg parts => uptoBulkAll parts + 1
  | .iface _ d => uptoBulk d + 1
  | .map entries => uptoBulkEntries entries + 1
  | .held _ => 1
def uptoBulkAll {H : Type} : List (DataW H) → Nat
  | [] => 0
  | d :: r => uptoBulk d + uptoBulkAll r
def uptoBulkEntries {H : Type} : List (Lit × DataW H) → Nat
  | [] => 0
  | x :: r => uptoBulkEntry x + uptoBulkEntries r
def uptoBulkEntry {H : Type} : Lit × DataW H → Nat
  | (.string bytes, d) => bytes.length + uptoBulk d + 1
  | (_, d) => uptoBulk d + 1
 end
def uptoSmall : (H : Type) → List (DataW H) → Bool := fun _ ds => decide (uptoBulkAll ds ≤ 1048576)
def OpenSpec.upto (s : _root_.Go.ChangeSpec) : _root_.Go.OpenSpec := { _root_.Go.OpenSpec.ofChange s with cond := some uptoSmall }

/-- 'columbarylaw03.BagTells', WHERE WHAT IT READS IS OF BULK AT MOST 1048576: true; the input reads as it did. -/
def bagTellsUptoRow : OpenClaim := { program := "ythjeollmjfdaeaa", sum := "86e3bfc38a62330b34c2bcd994957d48cb4d7a78e35891706e9ad2a313d3d0c3", func := "columbary/columbarylaw03.BagTells", spec := "bagTells", apart := false, narrowed := true }
def BagTellsUptoSaid : Prop := bagTellsUptoRow.holds Try.pinned (OpenSpec.upto bagTellsSpec)

/-- 'columbarylaw03.BagOne', WHERE WHAT IT READS IS OF BULK AT MOST 1048576: true; the input reads as it did. -/
def bagOneUptoRow : OpenClaim := { program := "ythjeollmjfdaeaa", sum := "86e3bfc38a62330b34c2bcd994957d48cb4d7a78e35891706e9ad2a313d3d0c3", func := "columbary/columbarylaw03.BagOne", spec := "bagOne", apart := false, narrowed := true }
def BagOneUptoSaid : Prop := bagOneUptoRow.holds Try.pinned (OpenSpec.upto bagOneSpec)

/-- 'columbarylaw03.BagLaws', WHERE WHAT IT READS IS OF BULK AT MOST 1048576: true; the input reads as it did. -/
def bagLawsUptoRow : OpenClaim := { program := "ythjeollmjfdaeaa", sum := "86e3bfc38a62330b34c2bcd994957d48cb4d7a78e35891706e9ad2a313d3d0c3", func := "columbary/columbarylaw03.BagLaws", spec := "bagLaws", apart := false, narrowed := true }
def BagLawsUptoSaid : Prop := bagLawsUptoRow.holds Try.pinned (OpenSpec.upto bagLawsSpec)

/-- 'columbarylaw03.BagOrder', WHERE WHAT IT READS IS OF BULK AT MOST 1048576: true; the input reads as it did. -/
def bagOrderUptoRow : OpenClaim := { program := "ythjeollmjfdaeaa", sum := "86e3bfc38a62330b34c2bcd994957d48cb4d7a78e35891706e9ad2a313d3d0c3", func := "columbary/columbarylaw03.BagOrder", spec := "bagOrder", apart := false, narrowed := true }
def BagOrderUptoSaid : Prop := bagOrderUptoRow.holds Try.pinned (OpenSpec.upto bagOrderSpec)

/-- 'columbarylaw03.BagTake', WHERE WHAT IT READS IS OF BULK AT MOST 1048576: true; the input reads as it did. -/
def bagTakeUptoRow : OpenClaim := { program := "ythjeollmjfdaeaa", sum := "86e3bfc38a62330b34c2bcd994957d48cb4d7a78e35891706e9ad2a313d3d0c3", func := "columbary/columbarylaw03.BagTake", spec := "bagTake", apart := false, narrowed := true }
def BagTakeUptoSaid : Prop := bagTakeUptoRow.holds Try.pinned (OpenSpec.upto bagTakeSpec)

/-- 'columbarylaw03.BagKeeps', WHERE WHAT IT READS IS OF BULK AT MOST 1048576: true; the input reads as it did. -/
def bagKeepsUptoRow : OpenClaim := { program := "ythjeollmjfdaeaa", sum := "86e3bfc38a62330b34c2bcd994957d48cb4d7a78e35891706e9ad2a313d3d0c3", func := "columbary/columbarylaw03.BagKeeps", spec := "bagKeeps", apart := false, narrowed := true }
def BagKeepsUptoSaid : Prop := bagKeepsUptoRow.holds Try.pinned (OpenSpec.upto bagKeepsSpec)

end Rows
end Go.Proofs.Ythjeollmjfdaeaa
