/-
  No cell of these rows narrows 'for every input' (looked for: loops, veiled, ifaces, maps, wideKeys, modest, calm, conditions, laid).
  DERIVED. THE GIVEN ROWS OF THIS SEAT. 5 by the template 'for every input the law returns true; each argument reads behind the call as it read before'; 0 by the template 'total and deterministic' (their statements: YtdfbomlnbogjkaaTotals.lean).
  GIVEN WITH THE SEED: the statements are not yours to turn. If you find one false, say at which input.
  Laid BY PROGRAM, IN A SANDBOX (cutbox-rows.mjs): the forced cells as the released guide's own fill.sh prints them over the translation ba444c21bab62780… (all of the seat's roots in one cut). By AI agents, Wed Nov 11 2026. No macro, syntax, notation, axiom, sorry.
-/
import Derived.Test.YtdfbomlnbogjkaaChecked
import GoSem.Claim
import GoSem.ClaimJoined
import GoSem.ClaimMapViews
import Derived.JoinedTies
import Derived.KernelRfl
namespace Go.Proofs.Ytdfbomlnbogjkaa
/- THE CELL 'sum', in the pinned program and in every row, IS THE sha256 OF THE DUMP (.gsa) THAT YtdfbomlnbogjkaaProg.lean LOADS. Nothing in Lean hashes anything: it is a label: what it is worth is what the hold of that sum in a sandbox is worth. -/
noncomputable def Try.pinned : Pinned := { name := "ytdfbomlnbogjkaa", sum := "ba444c21bab62780ed7acd0bfcd9d82302f6500850cbe607aa0cf3adc06f4601", checked := Try.checked }
namespace Rows
def none {H : Type} : Left H := { results := [], args := [] }

/-- 'columbarylaw01.MeterPlays': WHATEVER THE INPUT: true; the input reads as it did. -/
def meterPlaysSpec : ChangeSpec := { name := "meterPlays", fn := fun _ => fun
  | [d1, d2] => { results := [.lit (.bool true)], args := [d1, d2] }
  | _ => none }
def meterPlaysRow : OpenClaim := { program := "ytdfbomlnbogjkaa", sum := "ba444c21bab62780ed7acd0bfcd9d82302f6500850cbe607aa0cf3adc06f4601", func := "columbary/columbarylaw01.MeterPlays", spec := "meterPlays", apart := false }
def MeterPlaysSaid : Prop := meterPlaysRow.holds Try.pinned (OpenSpec.ofChange meterPlaysSpec)

/-- ITS FALSE NEIGHBOUR: 'it returns false'. Refute it at one input. -/
def meterPlaysWrong : ChangeSpec := { name := "meterPlays", fn := fun _ => fun
  | [d1, d2] => { results := [.lit (.bool false)], args := [d1, d2] }
  | _ => none }
def MeterPlaysWrongFalsely : Prop := meterPlaysRow.holds Try.pinned (OpenSpec.ofChange meterPlaysWrong)

/-- 'columbarylaw01.MeterNil': WHATEVER THE INPUT: true; the input reads as it did. -/
def meterNilSpec : ChangeSpec := { name := "meterNil", fn := fun _ => fun
  | [d] => { results := [.lit (.bool true)], args := [d] }
  | _ => none }
def meterNilRow : OpenClaim := { program := "ytdfbomlnbogjkaa", sum := "ba444c21bab62780ed7acd0bfcd9d82302f6500850cbe607aa0cf3adc06f4601", func := "columbary/columbarylaw01.MeterNil", spec := "meterNil", apart := false }
def MeterNilSaid : Prop := meterNilRow.holds Try.pinned (OpenSpec.ofChange meterNilSpec)

/-- ITS FALSE NEIGHBOUR: 'it returns false'. Refute it at one input. -/
def meterNilWrong : ChangeSpec := { name := "meterNil", fn := fun _ => fun
  | [d] => { results := [.lit (.bool false)], args := [d] }
  | _ => none }
def MeterNilWrongFalsely : Prop := meterNilRow.holds Try.pinned (OpenSpec.ofChange meterNilWrong)

/-- 'columbarylaw01.MeterSums': WHATEVER THE INPUT: true; the input reads as it did. -/
def meterSumsSpec : ChangeSpec := { name := "meterSums", fn := fun _ => fun
  | [d1, d2] => { results := [.lit (.bool true)], args := [d1, d2] }
  | _ => none }
def meterSumsRow : OpenClaim := { program := "ytdfbomlnbogjkaa", sum := "ba444c21bab62780ed7acd0bfcd9d82302f6500850cbe607aa0cf3adc06f4601", func := "columbary/columbarylaw01.MeterSums", spec := "meterSums", apart := false }
def MeterSumsSaid : Prop := meterSumsRow.holds Try.pinned (OpenSpec.ofChange meterSumsSpec)

/-- ITS FALSE NEIGHBOUR: 'it returns false'. Refute it at one input. -/
def meterSumsWrong : ChangeSpec := { name := "meterSums", fn := fun _ => fun
  | [d1, d2] => { results := [.lit (.bool false)], args := [d1, d2] }
  | _ => none }
def MeterSumsWrongFalsely : Prop := meterSumsRow.holds Try.pinned (OpenSpec.ofChange meterSumsWrong)

/-- 'columbarylaw01.MeterLaws': WHATEVER THE INPUT: true; the input reads as it did. -/
def meterLawsSpec : ChangeSpec := { name := "meterLaws", fn := fun _ => fun
  | [d1, d2, d3, d4] => { results := [.lit (.bool true)], args := [d1, d2, d3, d4] }
  | _ => none }
def meterLawsRow : OpenClaim := { program := "ytdfbomlnbogjkaa", sum := "ba444c21bab62780ed7acd0bfcd9d82302f6500850cbe607aa0cf3adc06f4601", func := "columbary/columbarylaw01.MeterLaws", spec := "meterLaws", apart := false }
def MeterLawsSaid : Prop := meterLawsRow.holds Try.pinned (OpenSpec.ofChange meterLawsSpec)

/-- ITS FALSE NEIGHBOUR: 'it returns false'. Refute it at one input. -/
def meterLawsWrong : ChangeSpec := { name := "meterLaws", fn := fun _ => fun
  | [d1, d2, d3, d4] => { results := [.lit (.bool false)], args := [d1, d2, d3, d4] }
  | _ => none }
def MeterLawsWrongFalsely : Prop := meterLawsRow.holds Try.pinned (OpenSpec.ofChange meterLawsWrong)

/-- 'columbarylaw01.MeterLast': WHATEVER THE INPUT: true; the input reads as it did. -/
def meterLastSpec : ChangeSpec := { name := "meterLast", fn := fun _ => fun
  | [d1, d2] => { results := [.lit (.bool true)], args := [d1, d2] }
  | _ => none }
def meterLastRow : OpenClaim := { program := "ytdfbomlnbogjkaa", sum := "ba444c21bab62780ed7acd0bfcd9d82302f6500850cbe607aa0cf3adc06f4601", func := "columbary/columbarylaw01.MeterLast", spec := "meterLast", apart := false }
def MeterLastSaid : Prop := meterLastRow.holds Try.pinned (OpenSpec.ofChange meterLastSpec)

/-- ITS FALSE NEIGHBOUR: 'it returns false'. Refute it at one input. -/
def meterLastWrong : ChangeSpec := { name := "meterLast", fn := fun _ => fun
  | [d1, d2] => { results := [.lit (.bool false)], args := [d1, d2] }
  | _ => none }
def MeterLastWrongFalsely : Prop := meterLastRow.holds Try.pinned (OpenSpec.ofChange meterLastWrong)

/- THE SECOND FORM. 'bulk': how many values and letters a reading holds, each counted each time it is reached (what is shared counts as often as it is met; a slice's spare places count too). A statement '..UptoSaid' is the law's where the arguments, and the package variables that the reading takes, are together of bulk at most 1048576: NARROWER than '..Said'. Prove '..Said' where nothing that the law and all that it calls make is longer than what came in: it says more and counts as full. Else prove '..UptoSaid'. A law counts once. -/
mutual
def uptoBulk {H : Type} : DataW H → Nat
  | .lit (.string bytes) => bytes.length + 1
  | .lit _ => 1
  | .nil => 1
  | .ptr d => uptoBulk d + 1
  | .slice elems spare => uptoBulkAll elems + uptoBulkAll spare + 1
  | .agg parts => uptoBulkAll parts + 1
  | .iface _ d => uptoBulk d + 1
  | .map entries => uptoBulkEntries entries + 1
  | .held _ => 1
def uptoBulkAll {H : Type} : List (DataW H) → Nat
  | [] => 0
  | d :: r => uptoBulk d + uptoBulkAll r
def uptoBulkEntries {H : Type} : List (Lit × DataW H) → Nat
  | [] => 0
  | x :: r => uptoBulkEntry x + uptoBulkEntries r
def uptoBulkEntry {H : Type} : Lit × DataW H → Nat
  | (.string bytes, d) => bytes.length + uptoBulk d + 1
  | (_, d) => uptoBulk d + 1
 end
def uptoSmall : (H : Type) → List (DataW H) → Bool := fun _ ds => decide (uptoBulkAll ds ≤ 1048576)
def OpenSpec.upto (s : _root_.Go.ChangeSpec) : _root_.Go.OpenSpec := { _root_.Go.OpenSpec.ofChange s with cond := some uptoSmall }

/-- 'columbarylaw01.MeterPlays', WHERE WHAT IT READS IS OF BULK AT MOST 1048576: true; the input reads as it did. -/
def meterPlaysUptoRow : OpenClaim := { program := "ytdfbomlnbogjkaa", sum := "ba444c21bab62780ed7acd0bfcd9d82302f6500850cbe607aa0cf3adc06f4601", func := "columbary/columbarylaw01.MeterPlays", spec := "meterPlays", apart := false, narrowed := true }
def MeterPlaysUptoSaid : Prop := meterPlaysUptoRow.holds Try.pinned (OpenSpec.upto meterPlaysSpec)

/-- 'columbarylaw01.MeterNil', WHERE WHAT IT READS IS OF BULK AT MOST 1048576: true; the input reads as it did. -/
def meterNilUptoRow : OpenClaim := { program := "ytdfbomlnbogjkaa", sum := "ba444c21bab62780ed7acd0bfcd9d82302f6500850cbe607aa0cf3adc06f4601", func := "columbary/columbarylaw01.MeterNil", spec := "meterNil", apart := false, narrowed := true }
def MeterNilUptoSaid : Prop := meterNilUptoRow.holds Try.pinned (OpenSpec.upto meterNilSpec)

/-- 'columbarylaw01.MeterSums', WHERE WHAT IT READS IS OF BULK AT MOST 1048576: true; the input reads as it did. -/
def meterSumsUptoRow : OpenClaim := { program := "ytdfbomlnbogjkaa", sum := "ba444c21bab62780ed7acd0bfcd9d82302f6500850cbe607aa0cf3adc06f4601", func := "columbary/columbarylaw01.MeterSums", spec := "meterSums", apart := false, narrowed := true }
def MeterSumsUptoSaid : Prop := meterSumsUptoRow.holds Try.pinned (OpenSpec.upto meterSumsSpec)

/-- 'columbarylaw01.MeterLaws', WHERE WHAT IT READS IS OF BULK AT MOST 1048576: true; the input reads as it did. -/
def meterLawsUptoRow : OpenClaim := { program := "ytdfbomlnbogjkaa", sum := "ba444c21bab62780ed7acd0bfcd9d82302f6500850cbe607aa0cf3adc06f4601", func := "columbary/columbarylaw01.MeterLaws", spec := "meterLaws", apart := false, narrowed := true }
def MeterLawsUptoSaid : Prop := meterLawsUptoRow.holds Try.pinned (OpenSpec.upto meterLawsSpec)

/-- 'columbarylaw01.MeterLast', WHERE WHAT IT READS IS OF BULK AT MOST 1048576: true; the input reads as it did. -/
def meterLastUptoRow : OpenClaim := { program := "ytdfbomlnbogjkaa", sum := "ba444c21bab62780ed7acd0bfcd9d82302f6500850cbe607aa0cf3adc06f4601", func := "columbary/columbarylaw01.MeterLast", spec := "meterLast", apart := false, narrowed := true }
def MeterLastUptoSaid : Prop := meterLastUptoRow.holds Try.pinned (OpenSpec.upto meterLastSpec)

end Rows
end Go.Proofs.Ytdfbomlnbogjkaa
