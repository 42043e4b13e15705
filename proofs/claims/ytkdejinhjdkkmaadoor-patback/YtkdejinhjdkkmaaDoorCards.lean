/-
  DERIVED. GIVEN WITH THE SEED: THE CARDS: each row of YtkdejinhjdkkmaaDoorRows.lean that lists a variable, with what it lists TIED to the program's text (the seventh form; the later family's looks); each row that meets fmt, with fmt's text TOLD by the authors' own Lean function (tested against real Go, not proved from fmt's source: count such statements apart). THE CARD IS WHAT COUNTS. Prove the row's statement (the work); the ties are given (YtkdejinhjdkkmaaDoorTie.lean); close each card by the builder's one call (the guide's Derived/Test/ToyasCard.lean, 'card_holds'). Laid BY PROGRAM, IN A SANDBOX (cutbox-door.mjs). By AI agents, Wed Nov 11 2026. No macro, syntax, notation, axiom, sorry.
-/
import Derived.Test.YtkdejinhjdkkmaaDoorRows
import GoSem.ClaimSeven
namespace Go.Proofs.YtkdejinhjdkkmaaDoor
namespace Rows

/-- THE TIED CARD OF 'columbarylaw05.PatBack'. -/
def patBackCard : Claim7 := { stood := { row := patBackRow, standIns := [], harness := (true, "4ad3a428fe23068609d58218a6a62652e281afae44de90ebe3c4c096c95e6bfd"), looks := false }, kinds := [], alts := [], laidByText := true, laidKinds := [.data, .data, .data], laidTests := true, laidLooks := .later }
def PatBackCardSaid : Prop := Claim7.holds Tryd.pinned (.plain (OpenSpec.ofChange patBackSpec)) patBackCard

/-- THE TIED CARD OF 'columbarylaw05.PatPrints'. -/
def patPrintsCard : Claim7 := { stood := { row := patPrintsRow, standIns := [], harness := (true, "4ad3a428fe23068609d58218a6a62652e281afae44de90ebe3c4c096c95e6bfd"), looks := false }, kinds := [], alts := [], laidByText := true, laidKinds := [.data, .data, .data], laidTests := true, laidLooks := .later }
def PatPrintsCardSaid : Prop := Claim7.holds Tryd.pinned (.plain (OpenSpec.ofChange patPrintsSpec)) patPrintsCard

/-- THE SECOND FORM's CARD OF 'columbarylaw05.PatBack'. -/
def patBackUptoCard : Claim7 := { stood := { row := patBackUptoRow, standIns := [], harness := (true, "4ad3a428fe23068609d58218a6a62652e281afae44de90ebe3c4c096c95e6bfd"), looks := false }, kinds := [], alts := [], laidByText := true, laidKinds := [.data, .data, .data], laidTests := true, laidLooks := .later }
def PatBackUptoCardSaid : Prop := Claim7.holds Tryd.pinned (.plain (OpenSpec.upto patBackSpec)) patBackUptoCard

/-- THE SECOND FORM's CARD OF 'columbarylaw05.PatPrints'. -/
def patPrintsUptoCard : Claim7 := { stood := { row := patPrintsUptoRow, standIns := [], harness := (true, "4ad3a428fe23068609d58218a6a62652e281afae44de90ebe3c4c096c95e6bfd"), looks := false }, kinds := [], alts := [], laidByText := true, laidKinds := [.data, .data, .data], laidTests := true, laidLooks := .later }
def PatPrintsUptoCardSaid : Prop := Claim7.holds Tryd.pinned (.plain (OpenSpec.upto patPrintsSpec)) patPrintsUptoCard
end Rows
end Go.Proofs.YtkdejinhjdkkmaaDoor
