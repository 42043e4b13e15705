/-
  NARROWER THAN 'FOR EVERY INPUT', by the rows' own cells (each row's printed sentence says how): InclTells: laid · InclWords: laid · InclPlain: laid · InclLaws: laid · InclSame: laid · InclBudget: laid.
  DERIVED. THE GIVEN ROWS OF THIS SEAT. 6 by the template 'for every input the law returns true; each argument reads behind the call as it read before'; 0 by the template 'total and deterministic' (their statements: YtmnkjekjknhhjaaGreatDoorTotals.lean).
  GIVEN WITH THE SEED: the statements are not yours to turn. If you find one false, say at which input.
  Laid BY PROGRAM, IN A SANDBOX (cutbox-rows.mjs): the forced cells as the released guide's own fill.sh prints them over the translation ab59d7776e5f82ff… (all of the seat's roots in one cut). By AI agents, Wed Nov 11 2026. No macro, syntax, notation, axiom, sorry.
-/
import Derived.Test.YtmnkjekjknhhjaaGreatDoorChecked
import GoSem.Claim
import GoSem.ClaimJoined
import GoSem.ClaimMapViews
import Derived.JoinedTies
import Derived.KernelRfl
namespace Go.Proofs.YtmnkjekjknhhjaaGreatDoor
/- THE CELL 'sum', in the pinned program and in every row, IS THE sha256 OF THE DUMP (.gsa) THAT YtmnkjekjknhhjaaGreatDoorProg.lean LOADS. Nothing in Lean hashes anything: it is a label: what it is worth is what the hold of that sum in a sandbox is worth. -/
noncomputable def Tryz.pinned : Pinned := { name := "ytmnkjekjknhhjaagreatdoor", sum := "ab59d7776e5f82ffe0fcf00a6bfa0a690576033163ac567e16117db1c796bf0a", checked := Tryz.checked }
namespace Rows
def none {H : Type} : Left H := { results := [], args := [] }

/- WHAT THE LISTED PACKAGE-LEVEL VARIABLES READ AS WHEN THE CALL BEGINS. Each datum BY PROGRAM (the guide's laid-datum.mjs) off the statement by which the dump's own 'gosem.cut.vars' lays the variable. In a bare row this is a premise. The card (YtmnkjekjknhhjaaGreatDoorCards.lean) ties it to the program's text. -/
def laid_math_bits_deBruijn32tab {H : Type} : DataW H := .agg [.lit (.int .u8 0), .lit (.int .u8 1), .lit (.int .u8 28), .lit (.int .u8 2), .lit (.int .u8 29), .lit (.int .u8 14), .lit (.int .u8 24), .lit (.int .u8 3), .lit (.int .u8 30), .lit (.int .u8 22), .lit (.int .u8 20), .lit (.int .u8 15), .lit (.int .u8 25), .lit (.int .u8 17), .lit (.int .u8 4), .lit (.int .u8 8), .lit (.int .u8 31), .lit (.int .u8 27), .lit (.int .u8 13), .lit (.int .u8 23), .lit (.int .u8 21), .lit (.int .u8 19), .lit (.int .u8 16), .lit (.int .u8 7), .lit (.int .u8 26), .lit (.int .u8 12), .lit (.int .u8 18), .lit (.int .u8 6), .lit (.int .u8 11), .lit (.int .u8 5), .lit (.int .u8 10), .lit (.int .u8 9)]
def laid_math_bits_deBruijn64tab {H : Type} : DataW H := .agg [.lit (.int .u8 0), .lit (.int .u8 1), .lit (.int .u8 56), .lit (.int .u8 2), .lit (.int .u8 57), .lit (.int .u8 49), .lit (.int .u8 28), .lit (.int .u8 3), .lit (.int .u8 61), .lit (.int .u8 58), .lit (.int .u8 42), .lit (.int .u8 50), .lit (.int .u8 38), .lit (.int .u8 29), .lit (.int .u8 17), .lit (.int .u8 4), .lit (.int .u8 62), .lit (.int .u8 47), .lit (.int .u8 59), .lit (.int .u8 36), .lit (.int .u8 45), .lit (.int .u8 43), .lit (.int .u8 51), .lit (.int .u8 22), .lit (.int .u8 53), .lit (.int .u8 39), .lit (.int .u8 33), .lit (.int .u8 30), .lit (.int .u8 24), .lit (.int .u8 18), .lit (.int .u8 12), .lit (.int .u8 5), .lit (.int .u8 63), .lit (.int .u8 55), .lit (.int .u8 48), .lit (.int .u8 27), .lit (.int .u8 60), .lit (.int .u8 41), .lit (.int .u8 37), .lit (.int .u8 16), .lit (.int .u8 46), .lit (.int .u8 35), .lit (.int .u8 44), .lit (.int .u8 21), .lit (.int .u8 52), .lit (.int .u8 32), .lit (.int .u8 23), .lit (.int .u8 11), .lit (.int .u8 54), .lit (.int .u8 26), .lit (.int .u8 40), .lit (.int .u8 15), .lit (.int .u8 34), .lit (.int .u8 20), .lit (.int .u8 31), .lit (.int .u8 10), .lit (.int .u8 25), .lit (.int .u8 14), .lit (.int .u8 19), .lit (.int .u8 9), .lit (.int .u8 13), .lit (.int .u8 8), .lit (.int .u8 7), .lit (.int .u8 6)]
def laid_internal_strconv_uint64pow10 {H : Type} : DataW H := .agg [.lit (.int .u64 1), .lit (.int .u64 10), .lit (.int .u64 100), .lit (.int .u64 1000), .lit (.int .u64 10000), .lit (.int .u64 100000), .lit (.int .u64 1000000), .lit (.int .u64 10000000), .lit (.int .u64 100000000), .lit (.int .u64 1000000000), .lit (.int .u64 10000000000), .lit (.int .u64 100000000000), .lit (.int .u64 1000000000000), .lit (.int .u64 10000000000000), .lit (.int .u64 100000000000000), .lit (.int .u64 1000000000000000), .lit (.int .u64 10000000000000000), .lit (.int .u64 100000000000000000), .lit (.int .u64 1000000000000000000), .lit (.int .u64 10000000000000000000)]

/-- 'columbarylaw10.InclTells': WHATEVER THE INPUT: true; the input reads as it did. -/
def inclTellsSpec : ChangeSpec := { name := "inclTells", fn := fun _ => fun
  | [d1, d2, d3, d4, d5] => { results := [.lit (.bool true)], args := [d1, d2, d3, d4, d5] }
  | _ => none }
def inclTellsRow : OpenClaim := { program := "ytmnkjekjknhhjaagreatdoor", sum := "ab59d7776e5f82ffe0fcf00a6bfa0a690576033163ac567e16117db1c796bf0a", func := "columbary/columbarylaw10.InclTells", spec := "inclTells", unfollowed := true, recurses := true, named := ["internal/strconv.uint64pow10", "math/bits.deBruijn32tab", "math/bits.deBruijn64tab"], apart := false, laid := [("math/bits.deBruijn32tab", laid_math_bits_deBruijn32tab), ("math/bits.deBruijn64tab", laid_math_bits_deBruijn64tab), ("internal/strconv.uint64pow10", laid_internal_strconv_uint64pow10)] }
def InclTellsSaid : Prop := inclTellsRow.holds Tryz.pinned (OpenSpec.ofChange inclTellsSpec)

/-- ITS FALSE NEIGHBOUR: 'it returns false'. Refute it at one input. -/
def inclTellsWrong : ChangeSpec := { name := "inclTells", fn := fun _ => fun
  | [d1, d2, d3, d4, d5] => { results := [.lit (.bool false)], args := [d1, d2, d3, d4, d5] }
  | _ => none }
def InclTellsWrongFalsely : Prop := inclTellsRow.holds Tryz.pinned (OpenSpec.ofChange inclTellsWrong)

/-- 'columbarylaw10.InclWords': WHATEVER THE INPUT: true; the input reads as it did. -/
def inclWordsSpec : ChangeSpec := { name := "inclWords", fn := fun _ => fun
  | [d1, d2] => { results := [.lit (.bool true)], args := [d1, d2] }
  | _ => none }
def inclWordsRow : OpenClaim := { program := "ytmnkjekjknhhjaagreatdoor", sum := "ab59d7776e5f82ffe0fcf00a6bfa0a690576033163ac567e16117db1c796bf0a", func := "columbary/columbarylaw10.InclWords", spec := "inclWords", unfollowed := true, recurses := true, named := ["internal/strconv.uint64pow10", "math/bits.deBruijn32tab", "math/bits.deBruijn64tab"], apart := false, laid := [("math/bits.deBruijn32tab", laid_math_bits_deBruijn32tab), ("math/bits.deBruijn64tab", laid_math_bits_deBruijn64tab), ("internal/strconv.uint64pow10", laid_internal_strconv_uint64pow10)] }
def InclWordsSaid : Prop := inclWordsRow.holds Tryz.pinned (OpenSpec.ofChange inclWordsSpec)

/-- ITS FALSE NEIGHBOUR: 'it returns false'. Refute it at one input. -/
def inclWordsWrong : ChangeSpec := { name := "inclWords", fn := fun _ => fun
  | [d1, d2] => { results := [.lit (.bool false)], args := [d1, d2] }
  | _ => none }
def InclWordsWrongFalsely : Prop := inclWordsRow.holds Tryz.pinned (OpenSpec.ofChange inclWordsWrong)

/-- 'columbarylaw10.InclPlain': WHATEVER THE INPUT: true; the input reads as it did. -/
def inclPlainSpec : ChangeSpec := { name := "inclPlain", fn := fun _ => fun
  | [d1, d2] => { results := [.lit (.bool true)], args := [d1, d2] }
  | _ => none }
def inclPlainRow : OpenClaim := { program := "ytmnkjekjknhhjaagreatdoor", sum := "ab59d7776e5f82ffe0fcf00a6bfa0a690576033163ac567e16117db1c796bf0a", func := "columbary/columbarylaw10.InclPlain", spec := "inclPlain", unfollowed := true, recurses := true, named := ["internal/strconv.uint64pow10", "math/bits.deBruijn32tab", "math/bits.deBruijn64tab"], apart := false, laid := [("math/bits.deBruijn32tab", laid_math_bits_deBruijn32tab), ("math/bits.deBruijn64tab", laid_math_bits_deBruijn64tab), ("internal/strconv.uint64pow10", laid_internal_strconv_uint64pow10)] }
def InclPlainSaid : Prop := inclPlainRow.holds Tryz.pinned (OpenSpec.ofChange inclPlainSpec)

/-- ITS FALSE NEIGHBOUR: 'it returns false'. Refute it at one input. -/
def inclPlainWrong : ChangeSpec := { name := "inclPlain", fn := fun _ => fun
  | [d1, d2] => { results := [.lit (.bool false)], args := [d1, d2] }
  | _ => none }
def InclPlainWrongFalsely : Prop := inclPlainRow.holds Tryz.pinned (OpenSpec.ofChange inclPlainWrong)

/-- 'columbarylaw10.InclLaws': WHATEVER THE INPUT: true; the input reads as it did. -/
def inclLawsSpec : ChangeSpec := { name := "inclLaws", fn := fun _ => fun
  | [d1, d2, d3] => { results := [.lit (.bool true)], args := [d1, d2, d3] }
  | _ => none }
def inclLawsRow : OpenClaim := { program := "ytmnkjekjknhhjaagreatdoor", sum := "ab59d7776e5f82ffe0fcf00a6bfa0a690576033163ac567e16117db1c796bf0a", func := "columbary/columbarylaw10.InclLaws", spec := "inclLaws", unfollowed := true, recurses := true, named := ["internal/strconv.uint64pow10", "math/bits.deBruijn32tab", "math/bits.deBruijn64tab"], apart := false, laid := [("math/bits.deBruijn32tab", laid_math_bits_deBruijn32tab), ("math/bits.deBruijn64tab", laid_math_bits_deBruijn64tab), ("internal/strconv.uint64pow10", laid_internal_strconv_uint64pow10)] }
def InclLawsSaid : Prop := inclLawsRow.holds Tryz.pinned (OpenSpec.ofChange inclLawsSpec)

/-- ITS FALSE NEIGHBOUR: 'it returns false'. Refute it at one input. -/
def inclLawsWrong : ChangeSpec := { name := "inclLaws", fn := fun _ => fun
  | [d1, d2, d3] => { results := [.lit (.bool false)], args := [d1, d2, d3] }
  | _ => none }
def InclLawsWrongFalsely : Prop := inclLawsRow.holds Tryz.pinned (OpenSpec.ofChange inclLawsWrong)

/-- 'columbarylaw10.InclSame': WHATEVER THE INPUT: true; the input reads as it did. -/
def inclSameSpec : ChangeSpec := { name := "inclSame", fn := fun _ => fun
  | [d1, d2] => { results := [.lit (.bool true)], args := [d1, d2] }
  | _ => none }
def inclSameRow : OpenClaim := { program := "ytmnkjekjknhhjaagreatdoor", sum := "ab59d7776e5f82ffe0fcf00a6bfa0a690576033163ac567e16117db1c796bf0a", func := "columbary/columbarylaw10.InclSame", spec := "inclSame", unfollowed := true, recurses := true, named := ["internal/strconv.uint64pow10", "math/bits.deBruijn32tab", "math/bits.deBruijn64tab"], apart := false, laid := [("math/bits.deBruijn32tab", laid_math_bits_deBruijn32tab), ("math/bits.deBruijn64tab", laid_math_bits_deBruijn64tab), ("internal/strconv.uint64pow10", laid_internal_strconv_uint64pow10)] }
def InclSameSaid : Prop := inclSameRow.holds Tryz.pinned (OpenSpec.ofChange inclSameSpec)

/-- ITS FALSE NEIGHBOUR: 'it returns false'. Refute it at one input. -/
def inclSameWrong : ChangeSpec := { name := "inclSame", fn := fun _ => fun
  | [d1, d2] => { results := [.lit (.bool false)], args := [d1, d2] }
  | _ => none }
def InclSameWrongFalsely : Prop := inclSameRow.holds Tryz.pinned (OpenSpec.ofChange inclSameWrong)

/-- 'columbarylaw10.InclBudget': WHATEVER THE INPUT: true; the input reads as it did. -/
def inclBudgetSpec : ChangeSpec := { name := "inclBudget", fn := fun _ => fun
  | [d1, d2, d3] => { results := [.lit (.bool true)], args := [d1, d2, d3] }
  | _ => none }
def inclBudgetRow : OpenClaim := { program := "ytmnkjekjknhhjaagreatdoor", sum := "ab59d7776e5f82ffe0fcf00a6bfa0a690576033163ac567e16117db1c796bf0a", func := "columbary/columbarylaw10.InclBudget", spec := "inclBudget", unfollowed := true, recurses := true, named := ["internal/strconv.uint64pow10", "math/bits.deBruijn32tab", "math/bits.deBruijn64tab"], apart := false, laid := [("math/bits.deBruijn32tab", laid_math_bits_deBruijn32tab), ("math/bits.deBruijn64tab", laid_math_bits_deBruijn64tab), ("internal/strconv.uint64pow10", laid_internal_strconv_uint64pow10)] }
def InclBudgetSaid : Prop := inclBudgetRow.holds Tryz.pinned (OpenSpec.ofChange inclBudgetSpec)

/-- ITS FALSE NEIGHBOUR: 'it returns false'. Refute it at one input. -/
def inclBudgetWrong : ChangeSpec := { name := "inclBudget", fn := fun _ => fun
  | [d1, d2, d3] => { results := [.lit (.bool false)], args := [d1, d2, d3] }
  | _ => none }
def InclBudgetWrongFalsely : Prop := inclBudgetRow.holds Tryz.pinned (OpenSpec.ofChange inclBudgetWrong)

/- THE SECOND FORM. 'bulk': how many values and letters a reading holds, each counted each time it is reached (what is shared counts as often as it is met; a slice's spare places count too). A statement '..UptoSaid' is the law's where the arguments, and the package variables that the reading takes, are together of bulk at most 1048576: NARROWER than '..Said'. Prove '..Said' where nothing that the law and all that it calls make is longer than what came in: it says more and counts as full. Else prove '..UptoSaid'. A law counts once. -/
mutual
def uptoBulk {H : Type} : DataW H → Nat
  | .lit (.string bytes) => bytes.length + 1
  | .lit _ => 1
  | .nil => 1
  | .ptr d => uptoBulk d + 1
  | .slice elems spare => uptoBulkAll elems + uptoBulkAll spare + 1
  | .agg parts => uptoBulkAll parts + 1
  | .iface _ d => uptoBulk d + 1
  | .map entries => uptoBulkEntries entries + 1
  | .held _ => 1
def uptoBulkAll {H : Type} : List (DataW H) → Nat
  | [] => 0
  | d :: r => uptoBulk d + uptoBulkAll r
def uptoBulkEntries {H : Type} : List (Lit × DataW H) → Nat
  | [] => 0
  | x :: r => uptoBulkEntry x + uptoBulkEntries r
def uptoBulkEntry {H : Type} : Lit × DataW H → Nat
  | (.string bytes, d) => bytes.length + uptoBulk d + 1
  | (_, d) => uptoBulk d + 1
 end
def uptoSmall : (H : Type) → List (DataW H) → Bool := fun _ ds => decide (uptoBulkAll ds ≤ 1048576)
def OpenSpec.upto (s : _root_.Go.ChangeSpec) : _root_.Go.OpenSpec := { _root_.Go.OpenSpec.ofChange s with cond := some uptoSmall }

/-- 'columbarylaw10.InclTells', WHERE WHAT IT READS IS OF BULK AT MOST 1048576: true; the input reads as it did. -/
def inclTellsUptoRow : OpenClaim := { program := "ytmnkjekjknhhjaagreatdoor", sum := "ab59d7776e5f82ffe0fcf00a6bfa0a690576033163ac567e16117db1c796bf0a", func := "columbary/columbarylaw10.InclTells", spec := "inclTells", unfollowed := true, recurses := true, named := ["internal/strconv.uint64pow10", "math/bits.deBruijn32tab", "math/bits.deBruijn64tab"], apart := false, laid := [("math/bits.deBruijn32tab", laid_math_bits_deBruijn32tab), ("math/bits.deBruijn64tab", laid_math_bits_deBruijn64tab), ("internal/strconv.uint64pow10", laid_internal_strconv_uint64pow10)], narrowed := true }
def InclTellsUptoSaid : Prop := inclTellsUptoRow.holds Tryz.pinned (OpenSpec.upto inclTellsSpec)

/-- 'columbarylaw10.InclWords', WHERE WHAT IT READS IS OF BULK AT MOST 1048576: true; the input reads as it did. -/
def inclWordsUptoRow : OpenClaim := { program := "ytmnkjekjknhhjaagreatdoor", sum := "ab59d7776e5f82ffe0fcf00a6bfa0a690576033163ac567e16117db1c796bf0a", func := "columbary/columbarylaw10.InclWords", spec := "inclWords", unfollowed := true, recurses := true, named := ["internal/strconv.uint64pow10", "math/bits.deBruijn32tab", "math/bits.deBruijn64tab"], apart := false, laid := [("math/bits.deBruijn32tab", laid_math_bits_deBruijn32tab), ("math/bits.deBruijn64tab", laid_math_bits_deBruijn64tab), ("internal/strconv.uint64pow10", laid_internal_strconv_uint64pow10)], narrowed := true }
def InclWordsUptoSaid : Prop := inclWordsUptoRow.holds Tryz.pinned (OpenSpec.upto inclWordsSpec)

/-- 'columbarylaw10.InclPlain', WHERE WHAT IT READS IS OF BULK AT MOST 1048576: true; the input reads as it did. -/
def inclPlainUptoRow : OpenClaim := { program := "ytmnkjekjknhhjaagreatdoor", sum := "ab59d7776e5f82ffe0fcf00a6bfa0a690576033163ac567e16117db1c796bf0a", func := "columbary/columbarylaw10.InclPlain", spec := "inclPlain", unfollowed := true, recurses := true, named := ["internal/strconv.uint64pow10", "math/bits.deBruijn32tab", "math/bits.deBruijn64tab"], apart := false, laid := [("math/bits.deBruijn32tab", laid_math_bits_deBruijn32tab), ("math/bits.deBruijn64tab", laid_math_bits_deBruijn64tab), ("internal/strconv.uint64pow10", laid_internal_strconv_uint64pow10)], narrowed := true }
def InclPlainUptoSaid : Prop := inclPlainUptoRow.holds Tryz.pinned (OpenSpec.upto inclPlainSpec)

/-- 'columbarylaw10.InclLaws', WHERE WHAT IT READS IS OF BULK AT MOST 1048576: true; the input reads as it did. -/
def inclLawsUptoRow : OpenClaim := { program := "ytmnkjekjknhhjaagreatdoor", sum := "ab59d7776e5f82ffe0fcf00a6bfa0a690576033163ac567e16117db1c796bf0a", func := "columbary/columbarylaw10.InclLaws", spec := "inclLaws", unfollowed := true, recurses := true, named := ["internal/strconv.uint64pow10", "math/bits.deBruijn32tab", "math/bits.deBruijn64tab"], apart := false, laid := [("math/bits.deBruijn32tab", laid_math_bits_deBruijn32tab), ("math/bits.deBruijn64tab", laid_math_bits_deBruijn64tab), ("internal/strconv.uint64pow10", laid_internal_strconv_uint64pow10)], narrowed := true }
def InclLawsUptoSaid : Prop := inclLawsUptoRow.holds Tryz.pinned (OpenSpec.upto inclLawsSpec)

/-- 'columbarylaw10.InclSame', WHERE WHAT IT READS IS OF BULK AT MOST 1048576: true; the input reads as it did. -/
def inclSameUptoRow : OpenClaim := { program := "ytmnkjekjknhhjaagreatdoor", sum := "ab59d7776e5f82ffe0fcf00a6bfa0a690576033163ac567e16117db1c796bf0a", func := "columbary/columbarylaw10.InclSame", spec := "inclSame", unfollowed := true, recurses := true, named := ["internal/strconv.uint64pow10", "math/bits.deBruijn32tab", "math/bits.deBruijn64tab"], apart := false, laid := [("math/bits.deBruijn32tab", laid_math_bits_deBruijn32tab), ("math/bits.deBruijn64tab", laid_math_bits_deBruijn64tab), ("internal/strconv.uint64pow10", laid_internal_strconv_uint64pow10)], narrowed := true }
def InclSameUptoSaid : Prop := inclSameUptoRow.holds Tryz.pinned (OpenSpec.upto inclSameSpec)

/-- 'columbarylaw10.InclBudget', WHERE WHAT IT READS IS OF BULK AT MOST 1048576: true; the input reads as it did. -/
def inclBudgetUptoRow : OpenClaim := { program := "ytmnkjekjknhhjaagreatdoor", sum := "ab59d7776e5f82ffe0fcf00a6bfa0a690576033163ac567e16117db1c796bf0a", func := "columbary/columbarylaw10.InclBudget", spec := "inclBudget", unfollowed := true, recurses := true, named := ["internal/strconv.uint64pow10", "math/bits.deBruijn32tab", "math/bits.deBruijn64tab"], apart := false, laid := [("math/bits.deBruijn32tab", laid_math_bits_deBruijn32tab), ("math/bits.deBruijn64tab", laid_math_bits_deBruijn64tab), ("internal/strconv.uint64pow10", laid_internal_strconv_uint64pow10)], narrowed := true }
def InclBudgetUptoSaid : Prop := inclBudgetUptoRow.holds Tryz.pinned (OpenSpec.upto inclBudgetSpec)

end Rows
end Go.Proofs.YtmnkjekjknhhjaaGreatDoor
