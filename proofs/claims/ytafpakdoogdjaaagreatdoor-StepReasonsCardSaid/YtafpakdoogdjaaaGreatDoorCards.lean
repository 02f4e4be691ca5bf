/-
  DERIVED. GIVEN WITH THE SEED: THE CARDS: each row of YtafpakdoogdjaaaGreatDoorRows.lean that lists a variable, with what it lists TIED to the program's text (the seventh form; the later family's looks); each row that meets fmt, with fmt's text TOLD by the authors' own Lean function (tested against real Go, not proved from fmt's source: count such statements apart). THE CARD IS WHAT COUNTS. Prove the row's statement (the work); the ties are given (YtafpakdoogdjaaaGreatDoorTie.lean); close each card by the builder's one call (the guide's Derived/Test/ToyasCard.lean, 'card_holds'). Laid BY PROGRAM, IN A SANDBOX (cutbox-door.mjs). By AI agents, Wed Nov 11 2026. No macro, syntax, notation, axiom, sorry.
-/
import Derived.Test.YtafpakdoogdjaaaGreatDoorRows
import GoSem.ClaimSeven
namespace Go.Proofs.YtafpakdoogdjaaaGreatDoor
namespace Rows

/-- THE TIED CARD OF 'carousellaw10.StepReasons'. -/
def stepReasonsCard : Claim7 := { stood := { row := stepReasonsRow, standIns := [], harness := (true, "765bf2bf5909b3dc6dd6ad0de356ea808eea7eec6d2abdef55ee85c2f2a0b0a9"), looks := false }, kinds := [], alts := [], laidByText := true, laidKinds := [.data], laidTests := true, laidLooks := .later }
def StepReasonsCardSaid : Prop := Claim7.holds Tryz.pinned (.plain (OpenSpec.ofChange stepReasonsSpec)) stepReasonsCard

/-- THE SECOND FORM's CARD OF 'carousellaw10.StepReasons'. -/
def stepReasonsUptoCard : Claim7 := { stood := { row := stepReasonsUptoRow, standIns := [], harness := (true, "765bf2bf5909b3dc6dd6ad0de356ea808eea7eec6d2abdef55ee85c2f2a0b0a9"), looks := false }, kinds := [], alts := [], laidByText := true, laidKinds := [.data], laidTests := true, laidLooks := .later }
def StepReasonsUptoCardSaid : Prop := Claim7.holds Tryz.pinned (.plain (OpenSpec.upto stepReasonsSpec)) stepReasonsUptoCard
end Rows
end Go.Proofs.YtafpakdoogdjaaaGreatDoor
