/-
  DERIVED. GIVEN WITH THE SEED: THE CARDS: each row of YtmefmnpmppdpmabDoorRows.lean that lists a variable, with what it lists TIED to the program's text (the seventh form; the later family's looks); each row that meets fmt, with fmt's text TOLD by the authors' own Lean function (tested against real Go, not proved from fmt's source: count such statements apart). THE CARD IS WHAT COUNTS. Prove the row's statement (the work); the ties are given (YtmefmnpmppdpmabDoorTie.lean); close each card by the builder's one call (the guide's Derived/Test/ToyasCard.lean, 'card_holds'). Laid BY PROGRAM, IN A SANDBOX (cutbox-door.mjs). By AI agents, Wed Nov 11 2026. No macro, syntax, notation, axiom, sorry.
-/
import Derived.Test.YtmefmnpmppdpmabDoorRows
import GoSem.ClaimSeven
namespace Go.Proofs.YtmefmnpmppdpmabDoor
namespace Rows

/-- THE TIED CARD OF 'columbarylaw10.InclFar'. -/
def inclFarCard : Claim7 := { stood := { row := inclFarRow, standIns := [], harness := (true, "ca2991608554c671756ee6f14ffcd36c643297548ebde4137906ab68d833d6dc"), looks := false }, kinds := [], alts := [], laidByText := true, laidKinds := [.data, .data, .data], laidTests := true, laidLooks := .later }
def InclFarCardSaid : Prop := Claim7.holds Tryd.pinned (.plain (OpenSpec.ofChange inclFarSpec)) inclFarCard

/-- THE SECOND FORM's CARD OF 'columbarylaw10.InclFar'. -/
def inclFarUptoCard : Claim7 := { stood := { row := inclFarUptoRow, standIns := [], harness := (true, "ca2991608554c671756ee6f14ffcd36c643297548ebde4137906ab68d833d6dc"), looks := false }, kinds := [], alts := [], laidByText := true, laidKinds := [.data, .data, .data], laidTests := true, laidLooks := .later }
def InclFarUptoCardSaid : Prop := Claim7.holds Tryd.pinned (.plain (OpenSpec.upto inclFarSpec)) inclFarUptoCard
end Rows
end Go.Proofs.YtmefmnpmppdpmabDoor
