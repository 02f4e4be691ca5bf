/-
  DERIVED. GIVEN WITH THE SEED: THE CARDS: each row of YtgpgcjdneikokaaDoorRows.lean that lists a variable, with what it lists TIED to the program's text (the seventh form; the later family's looks); each row that meets fmt, with fmt's text TOLD by the authors' own Lean function (tested against real Go, not proved from fmt's source: count such statements apart). THE CARD IS WHAT COUNTS. Prove the row's statement (the work); the ties are given (YtgpgcjdneikokaaDoorTie.lean); close each card by the builder's one call (the guide's Derived/Test/ToyasCard.lean, 'card_holds'). Laid BY PROGRAM, IN A SANDBOX (cutbox-door.mjs). By AI agents, Wed Nov 11 2026. No macro, syntax, notation, axiom, sorry.
-/
import Derived.Test.YtgpgcjdneikokaaDoorRows
import GoSem.ClaimSeven
namespace Go.Proofs.YtgpgcjdneikokaaDoor
namespace Rows

/-- THE TIED CARD OF 'carousellaw06.CodeCosts'. -/
def codeCostsCard : Claim7 := { stood := { row := codeCostsRow, standIns := [], harness := (true, "c5b466fffef80ab87f8a906ed86fc69d084db9f39fad0c1e8486df8091af9679"), looks := false }, kinds := [], alts := [], laidByText := true, laidKinds := [.data, .data], laidTests := true, laidLooks := .later }
def CodeCostsCardSaid : Prop := Claim7.holds Tryd.pinned (.plain (OpenSpec.ofChange codeCostsSpec)) codeCostsCard

/-- THE SECOND FORM's CARD OF 'carousellaw06.CodeCosts'. -/
def codeCostsUptoCard : Claim7 := { stood := { row := codeCostsUptoRow, standIns := [], harness := (true, "c5b466fffef80ab87f8a906ed86fc69d084db9f39fad0c1e8486df8091af9679"), looks := false }, kinds := [], alts := [], laidByText := true, laidKinds := [.data, .data], laidTests := true, laidLooks := .later }
def CodeCostsUptoCardSaid : Prop := Claim7.holds Tryd.pinned (.plain (OpenSpec.upto codeCostsSpec)) codeCostsUptoCard
end Rows
end Go.Proofs.YtgpgcjdneikokaaDoor
