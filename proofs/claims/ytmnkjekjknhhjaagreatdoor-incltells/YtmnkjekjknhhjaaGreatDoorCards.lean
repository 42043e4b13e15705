/-
  DERIVED. GIVEN WITH THE SEED: THE CARDS: each row of YtmnkjekjknhhjaaGreatDoorRows.lean that lists a variable, with what it lists TIED to the program's text (the seventh form; the later family's looks); each row that meets fmt, with fmt's text TOLD by the authors' own Lean function (tested against real Go, not proved from fmt's source: count such statements apart). THE CARD IS WHAT COUNTS. Prove the row's statement (the work); the ties are given (YtmnkjekjknhhjaaGreatDoorTie.lean); close each card by the builder's one call (the guide's Derived/Test/ToyasCard.lean, 'card_holds'). Laid BY PROGRAM, IN A SANDBOX (cutbox-door.mjs). By AI agents, Wed Nov 11 2026. No macro, syntax, notation, axiom, sorry.
-/
import Derived.Test.YtmnkjekjknhhjaaGreatDoorRows
import GoSem.ClaimSeven
namespace Go.Proofs.YtmnkjekjknhhjaaGreatDoor
namespace Rows

/-- THE TIED CARD OF 'columbarylaw10.InclTells'. -/
def inclTellsCard : Claim7 := { stood := { row := inclTellsRow, standIns := [], harness := (true, "8d2983817cf571ef51bbaad7187f3a1493f0d6edc70e9f1b50396e2a131d1905"), looks := false }, kinds := [], alts := [], laidByText := true, laidKinds := [.data, .data, .data], laidTests := true, laidLooks := .later }
def InclTellsCardSaid : Prop := Claim7.holds Tryz.pinned (.plain (OpenSpec.ofChange inclTellsSpec)) inclTellsCard

/-- THE TIED CARD OF 'columbarylaw10.InclWords'. -/
def inclWordsCard : Claim7 := { stood := { row := inclWordsRow, standIns := [], harness := (true, "8d2983817cf571ef51bbaad7187f3a1493f0d6edc70e9f1b50396e2a131d1905"), looks := false }, kinds := [], alts := [], laidByText := true, laidKinds := [.data, .data, .data], laidTests := true, laidLooks := .later }
def InclWordsCardSaid : Prop := Claim7.holds Tryz.pinned (.plain (OpenSpec.ofChange inclWordsSpec)) inclWordsCard

/-- THE TIED CARD OF 'columbarylaw10.InclPlain'. -/
def inclPlainCard : Claim7 := { stood := { row := inclPlainRow, standIns := [], harness := (true, "8d2983817cf571ef51bbaad7187f3a1493f0d6edc70e9f1b50396e2a131d1905"), looks := false }, kinds := [], alts := [], laidByText := true, laidKinds := [.data, .data, .data], laidTests := true, laidLooks := .later }
def InclPlainCardSaid : Prop := Claim7.holds Tryz.pinned (.plain (OpenSpec.ofChange inclPlainSpec)) inclPlainCard

/-- THE TIED CARD OF 'columbarylaw10.InclLaws'. -/
def inclLawsCard : Claim7 := { stood := { row := inclLawsRow, standIns := [], harness := (true, "8d2983817cf571ef51bbaad7187f3a1493f0d6edc70e9f1b50396e2a131d1905"), looks := false }, kinds := [], alts := [], laidByText := true, laidKinds := [.data, .data, .data], laidTests := true, laidLooks := .later }
def InclLawsCardSaid : Prop := Claim7.holds Tryz.pinned (.plain (OpenSpec.ofChange inclLawsSpec)) inclLawsCard

/-- THE TIED CARD OF 'columbarylaw10.InclSame'. -/
def inclSameCard : Claim7 := { stood := { row := inclSameRow, standIns := [], harness := (true, "8d2983817cf571ef51bbaad7187f3a1493f0d6edc70e9f1b50396e2a131d1905"), looks := false }, kinds := [], alts := [], laidByText := true, laidKinds := [.data, .data, .data], laidTests := true, laidLooks := .later }
def InclSameCardSaid : Prop := Claim7.holds Tryz.pinned (.plain (OpenSpec.ofChange inclSameSpec)) inclSameCard

/-- THE TIED CARD OF 'columbarylaw10.InclBudget'. -/
def inclBudgetCard : Claim7 := { stood := { row := inclBudgetRow, standIns := [], harness := (true, "8d2983817cf571ef51bbaad7187f3a1493f0d6edc70e9f1b50396e2a131d1905"), looks := false }, kinds := [], alts := [], laidByText := true, laidKinds := [.data, .data, .data], laidTests := true, laidLooks := .later }
def InclBudgetCardSaid : Prop := Claim7.holds Tryz.pinned (.plain (OpenSpec.ofChange inclBudgetSpec)) inclBudgetCard

/-- THE SECOND FORM's CARD OF 'columbarylaw10.InclTells'. -/
def inclTellsUptoCard : Claim7 := { stood := { row := inclTellsUptoRow, standIns := [], harness := (true, "8d2983817cf571ef51bbaad7187f3a1493f0d6edc70e9f1b50396e2a131d1905"), looks := false }, kinds := [], alts := [], laidByText := true, laidKinds := [.data, .data, .data], laidTests := true, laidLooks := .later }
def InclTellsUptoCardSaid : Prop := Claim7.holds Tryz.pinned (.plain (OpenSpec.upto inclTellsSpec)) inclTellsUptoCard

/-- THE SECOND FORM's CARD OF 'columbarylaw10.InclWords'. -/
def inclWordsUptoCard : Claim7 := { stood := { row := inclWordsUptoRow, standIns := [], harness := (true, "8d2983817cf571ef51bbaad7187f3a1493f0d6edc70e9f1b50396e2a131d1905"), looks := false }, kinds := [], alts := [], laidByText := true, laidKinds := [.data, .data, .data], laidTests := true, laidLooks := .later }
def InclWordsUptoCardSaid : Prop := Claim7.holds Tryz.pinned (.plain (OpenSpec.upto inclWordsSpec)) inclWordsUptoCard

/-- THE SECOND FORM's CARD OF 'columbarylaw10.InclPlain'. -/
def inclPlainUptoCard : Claim7 := { stood := { row := inclPlainUptoRow, standIns := [], harness := (true, "8d2983817cf571ef51bbaad7187f3a1493f0d6edc70e9f1b50396e2a131d1905"), looks := false }, kinds := [], alts := [], laidByText := true, laidKinds := [.data, .data, .data], laidTests := true, laidLooks := .later }
def InclPlainUptoCardSaid : Prop := Claim7.holds Tryz.pinned (.plain (OpenSpec.upto inclPlainSpec)) inclPlainUptoCard

/-- THE SECOND FORM's CARD OF 'columbarylaw10.InclLaws'. -/
def inclLawsUptoCard : Claim7 := { stood := { row := inclLawsUptoRow, standIns := [], harness := (true, "8d2983817cf571ef51bbaad7187f3a1493f0d6edc70e9f1b50396e2a131d1905"), looks := false }, kinds := [], alts := [], laidByText := true, laidKinds := [.data, .data, .data], laidTests := true, laidLooks := .later }
def InclLawsUptoCardSaid : Prop := Claim7.holds Tryz.pinned (.plain (OpenSpec.upto inclLawsSpec)) inclLawsUptoCard

/-- THE SECOND FORM's CARD OF 'columbarylaw10.InclSame'. -/
def inclSameUptoCard : Claim7 := { stood := { row := inclSameUptoRow, standIns := [], harness := (true, "8d2983817cf571ef51bbaad7187f3a1493f0d6edc70e9f1b50396e2a131d1905"), looks := false }, kinds := [], alts := [], laidByText := true, laidKinds := [.data, .data, .data], laidTests := true, laidLooks := .later }
def InclSameUptoCardSaid : Prop := Claim7.holds Tryz.pinned (.plain (OpenSpec.upto inclSameSpec)) inclSameUptoCard

/-- THE SECOND FORM's CARD OF 'columbarylaw10.InclBudget'. -/
def inclBudgetUptoCard : Claim7 := { stood := { row := inclBudgetUptoRow, standIns := [], harness := (true, "8d2983817cf571ef51bbaad7187f3a1493f0d6edc70e9f1b50396e2a131d1905"), looks := false }, kinds := [], alts := [], laidByText := true, laidKinds := [.data, .data, .data], laidTests := true, laidLooks := .later }
def InclBudgetUptoCardSaid : Prop := Claim7.holds Tryz.pinned (.plain (OpenSpec.upto inclBudgetSpec)) inclBudgetUptoCard
end Rows
end Go.Proofs.YtmnkjekjknhhjaaGreatDoor
