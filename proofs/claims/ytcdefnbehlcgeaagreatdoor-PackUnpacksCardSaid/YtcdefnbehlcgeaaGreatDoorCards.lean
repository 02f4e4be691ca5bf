/-
  DERIVED. GIVEN WITH THE SEED: THE CARDS: each row of YtcdefnbehlcgeaaGreatDoorRows.lean that lists a variable, with what it lists TIED to the program's text (the seventh form; the later family's looks); each row that meets fmt, with fmt's text TOLD by the authors' own Lean function (tested against real Go, not proved from fmt's source: count such statements apart). THE CARD IS WHAT COUNTS. Prove the row's statement (the work); the ties are given (YtcdefnbehlcgeaaGreatDoorTie.lean); close each card by the builder's one call (the guide's Derived/Test/ToyasCard.lean, 'card_holds'). Laid BY PROGRAM, IN A SANDBOX (cutbox-door.mjs). By AI agents, Wed Nov 11 2026. No macro, syntax, notation, axiom, sorry.
-/
import Derived.Test.YtcdefnbehlcgeaaGreatDoorRows
import GoSem.ClaimSeven
namespace Go.Proofs.YtcdefnbehlcgeaaGreatDoor
namespace Rows

/-- THE TIED CARD OF 'carousellaw08.PackUnpacks'. -/
def packUnpacksCard : Claim7 := { stood := { row := packUnpacksRow, standIns := [], harness := (true, "f85332283672b4a6e2cdeb53dd6c1dce3d282f3e1b2ce792b5f93a4eca7ae528"), looks := false }, kinds := [], alts := [], laidByText := true, laidKinds := [.data], laidTests := true, laidLooks := .later }
def PackUnpacksCardSaid : Prop := Claim7.holds Tryz.pinned (.plain (OpenSpec.ofChange packUnpacksSpec)) packUnpacksCard

/-- THE SECOND FORM's CARD OF 'carousellaw08.PackUnpacks'. -/
def packUnpacksUptoCard : Claim7 := { stood := { row := packUnpacksUptoRow, standIns := [], harness := (true, "f85332283672b4a6e2cdeb53dd6c1dce3d282f3e1b2ce792b5f93a4eca7ae528"), looks := false }, kinds := [], alts := [], laidByText := true, laidKinds := [.data], laidTests := true, laidLooks := .later }
def PackUnpacksUptoCardSaid : Prop := Claim7.holds Tryz.pinned (.plain (OpenSpec.upto packUnpacksSpec)) packUnpacksUptoCard
end Rows
end Go.Proofs.YtcdefnbehlcgeaaGreatDoor
