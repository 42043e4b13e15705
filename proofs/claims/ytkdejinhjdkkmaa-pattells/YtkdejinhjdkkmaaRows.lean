/-
  No cell of these rows narrows 'for every input' (looked for: loops, veiled, ifaces, maps, wideKeys, modest, calm, conditions, laid).
  DERIVED. THE GIVEN ROWS OF THIS SEAT. 4 by the template 'for every input the law returns true; each argument reads behind the call as it read before'; 0 by the template 'total and deterministic' (their statements: YtkdejinhjdkkmaaTotals.lean).
  GIVEN WITH THE SEED: the statements are not yours to turn. If you find one false, say at which input.
  Laid BY PROGRAM, IN A SANDBOX (cutbox-rows.mjs): the forced cells as the released guide's own fill.sh prints them over the translation d97e41b50835a020… (all of the seat's roots in one cut). By AI agents, Wed Nov 11 2026. No macro, syntax, notation, axiom, sorry.
-/
import Derived.Test.YtkdejinhjdkkmaaChecked
import GoSem.Claim
import GoSem.ClaimJoined
import GoSem.ClaimMapViews
import Derived.JoinedTies
import Derived.KernelRfl
namespace Go.Proofs.Ytkdejinhjdkkmaa
/- THE CELL 'sum', in the pinned program and in every row, IS THE sha256 OF THE DUMP (.gsa) THAT YtkdejinhjdkkmaaProg.lean LOADS. Nothing in Lean hashes anything: it is a label: what it is worth is what the hold of that sum in a sandbox is worth. -/
noncomputable def Try.pinned : Pinned := { name := "ytkdejinhjdkkmaa", sum := "d97e41b50835a020e11118a84d39d14c1d420736cc27778a8ec57e4b89194d29", checked := Try.checked }
namespace Rows
def none {H : Type} : Left H := { results := [], args := [] }

/-- 'columbarylaw05.PatChecks': WHATEVER THE INPUT: true; the input reads as it did. -/
def patChecksSpec : ChangeSpec := { name := "patChecks", fn := fun _ => fun
  | [d1, d2, d3, d4] => { results := [.lit (.bool true)], args := [d1, d2, d3, d4] }
  | _ => none }
def patChecksRow : OpenClaim := { program := "ytkdejinhjdkkmaa", sum := "d97e41b50835a020e11118a84d39d14c1d420736cc27778a8ec57e4b89194d29", func := "columbary/columbarylaw05.PatChecks", spec := "patChecks", inPlace := ["internal/bytealg.IndexByteString"], unfollowed := true, recurses := true, apart := false }
def PatChecksSaid : Prop := patChecksRow.holds Try.pinned (OpenSpec.ofChange patChecksSpec)

/-- ITS FALSE NEIGHBOUR: 'it returns false'. Refute it at one input. -/
def patChecksWrong : ChangeSpec := { name := "patChecks", fn := fun _ => fun
  | [d1, d2, d3, d4] => { results := [.lit (.bool false)], args := [d1, d2, d3, d4] }
  | _ => none }
def PatChecksWrongFalsely : Prop := patChecksRow.holds Try.pinned (OpenSpec.ofChange patChecksWrong)

/-- 'columbarylaw05.PatTells': WHATEVER THE INPUT: true; the input reads as it did. -/
def patTellsSpec : ChangeSpec := { name := "patTells", fn := fun _ => fun
  | [d1, d2, d3] => { results := [.lit (.bool true)], args := [d1, d2, d3] }
  | _ => none }
def patTellsRow : OpenClaim := { program := "ytkdejinhjdkkmaa", sum := "d97e41b50835a020e11118a84d39d14c1d420736cc27778a8ec57e4b89194d29", func := "columbary/columbarylaw05.PatTells", spec := "patTells", inPlace := ["internal/bytealg.IndexByteString"], unfollowed := true, recurses := true, apart := false }
def PatTellsSaid : Prop := patTellsRow.holds Try.pinned (OpenSpec.ofChange patTellsSpec)

/-- ITS FALSE NEIGHBOUR: 'it returns false'. Refute it at one input. -/
def patTellsWrong : ChangeSpec := { name := "patTells", fn := fun _ => fun
  | [d1, d2, d3] => { results := [.lit (.bool false)], args := [d1, d2, d3] }
  | _ => none }
def PatTellsWrongFalsely : Prop := patTellsRow.holds Try.pinned (OpenSpec.ofChange patTellsWrong)

/-- 'columbarylaw05.PatForms': WHATEVER THE INPUT: true; the input reads as it did. -/
def patFormsSpec : ChangeSpec := { name := "patForms", fn := fun _ => fun
  | [d] => { results := [.lit (.bool true)], args := [d] }
  | _ => none }
def patFormsRow : OpenClaim := { program := "ytkdejinhjdkkmaa", sum := "d97e41b50835a020e11118a84d39d14c1d420736cc27778a8ec57e4b89194d29", func := "columbary/columbarylaw05.PatForms", spec := "patForms", inPlace := ["internal/bytealg.IndexByteString"], unfollowed := true, recurses := true, apart := false }
def PatFormsSaid : Prop := patFormsRow.holds Try.pinned (OpenSpec.ofChange patFormsSpec)

/-- ITS FALSE NEIGHBOUR: 'it returns false'. Refute it at one input. -/
def patFormsWrong : ChangeSpec := { name := "patForms", fn := fun _ => fun
  | [d] => { results := [.lit (.bool false)], args := [d] }
  | _ => none }
def PatFormsWrongFalsely : Prop := patFormsRow.holds Try.pinned (OpenSpec.ofChange patFormsWrong)

/-- 'columbarylaw05.PatMany': WHATEVER THE INPUT: true; the input reads as it did. -/
def patManySpec : ChangeSpec := { name := "patMany", fn := fun _ => fun
  | [d] => { results := [.lit (.bool true)], args := [d] }
  | _ => none }
def patManyRow : OpenClaim := { program := "ytkdejinhjdkkmaa", sum := "d97e41b50835a020e11118a84d39d14c1d420736cc27778a8ec57e4b89194d29", func := "columbary/columbarylaw05.PatMany", spec := "patMany", inPlace := ["internal/bytealg.IndexByteString"], unfollowed := true, recurses := true, apart := false }
def PatManySaid : Prop := patManyRow.holds Try.pinned (OpenSpec.ofChange patManySpec)

/-- ITS FALSE NEIGHBOUR: 'it returns false'. Refute it at one input. -/
def patManyWrong : ChangeSpec := { name := "patMany", fn := fun _ => fun
  | [d] => { results := [.lit (.bool false)], args := [d] }
  | _ => none }
def PatManyWrongFalsely : Prop := patManyRow.holds Try.pinned (OpenSpec.ofChange patManyWrong)

/- THE SECOND FORM. 'bulk': how many values and letters a reading holds, each counted each time it is reached (what is shared counts as often as it is met; a slice's spare places count too). A statement '..UptoSaid' is the law's where the arguments, and the package variables that the reading takes, are together of bulk at most 1048576: NARROWER than '..Said'. Prove '..Said' where nothing that the law and all that it calls make is longer than what came in: it says more and counts as full. Else prove '..UptoSaid'. A law counts once. -/
mutual
def uptoBulk {H : Type} : DataW H → Nat
  | .lit (.string bytes) => bytes.length + 1
  | .lit _ => 1
  | .nil => 1
  | .ptr d => uptoBulk d + 1
  | .slice elems spare => uptoBulkAll elems + uptoBulkAll spare + 1
  | .agg parts => uptoBulkAll parts + 1
  | .iface _ d => uptoBulk d + 1
  | .map entries => uptoBulkEntries entries + 1
  | .held _ => 1
def uptoBulkAll {H : Type} : List (DataW H) → Nat
  | [] => 0
  | d :: r => uptoBulk d + uptoBulkAll r
def uptoBulkEntries {H : Type} : List (Lit × DataW H) → Nat
  | [] => 0
  | x :: r => uptoBulkEntry x + uptoBulkEntries r
def uptoBulkEntry {H : Type} : Lit × DataW H → Nat
  | (.string bytes, d) => bytes.length + uptoBulk d + 1
  | (_, d) => uptoBulk d + 1
 end
def uptoSmall : (H : Type) → List (DataW H) → Bool := fun _ ds => decide (uptoBulkAll ds ≤ 1048576)
def OpenSpec.upto (s : _root_.Go.ChangeSpec) : _root_.Go.OpenSpec := { _root_.Go.OpenSpec.ofChange s with cond := some uptoSmall }

/-- 'columbarylaw05.PatChecks', WHERE WHAT IT READS IS OF BULK AT MOST 1048576: true; the input reads as it did. -/
def patChecksUptoRow : OpenClaim := { program := "ytkdejinhjdkkmaa", sum := "d97e41b50835a020e11118a84d39d14c1d420736cc27778a8ec57e4b89194d29", func := "columbary/columbarylaw05.PatChecks", spec := "patChecks", inPlace := ["internal/bytealg.IndexByteString"], unfollowed := true, recurses := true, apart := false, narrowed := true }
def PatChecksUptoSaid : Prop := patChecksUptoRow.holds Try.pinned (OpenSpec.upto patChecksSpec)

/-- 'columbarylaw05.PatTells', WHERE WHAT IT READS IS OF BULK AT MOST 1048576: true; the input reads as it did. -/
def patTellsUptoRow : OpenClaim := { program := "ytkdejinhjdkkmaa", sum := "d97e41b50835a020e11118a84d39d14c1d420736cc27778a8ec57e4b89194d29", func := "columbary/columbarylaw05.PatTells", spec := "patTells", inPlace := ["internal/bytealg.IndexByteString"], unfollowed := true, recurses := true, apart := false, narrowed := true }
def PatTellsUptoSaid : Prop := patTellsUptoRow.holds Try.pinned (OpenSpec.upto patTellsSpec)

/-- 'columbarylaw05.PatForms', WHERE WHAT IT READS IS OF BULK AT MOST 1048576: true; the input reads as it did. -/
def patFormsUptoRow : OpenClaim := { program := "ytkdejinhjdkkmaa", sum := "d97e41b50835a020e11118a84d39d14c1d420736cc27778a8ec57e4b89194d29", func := "columbary/columbarylaw05.PatForms", spec := "patForms", inPlace := ["internal/bytealg.IndexByteString"], unfollowed := true, recurses := true, apart := false, narrowed := true }
def PatFormsUptoSaid : Prop := patFormsUptoRow.holds Try.pinned (OpenSpec.upto patFormsSpec)

/-- 'columbarylaw05.PatMany', WHERE WHAT IT READS IS OF BULK AT MOST 1048576: true; the input reads as it did. -/
def patManyUptoRow : OpenClaim := { program := "ytkdejinhjdkkmaa", sum := "d97e41b50835a020e11118a84d39d14c1d420736cc27778a8ec57e4b89194d29", func := "columbary/columbarylaw05.PatMany", spec := "patMany", inPlace := ["internal/bytealg.IndexByteString"], unfollowed := true, recurses := true, apart := false, narrowed := true }
def PatManyUptoSaid : Prop := patManyUptoRow.holds Try.pinned (OpenSpec.upto patManySpec)

end Rows
end Go.Proofs.Ytkdejinhjdkkmaa
