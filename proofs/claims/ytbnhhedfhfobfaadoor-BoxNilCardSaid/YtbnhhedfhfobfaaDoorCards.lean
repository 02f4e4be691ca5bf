/-
  DERIVED. GIVEN WITH THE SEED: THE CARDS: each row of YtbnhhedfhfobfaaDoorRows.lean that lists a variable, with what it lists TIED to the program's text (the seventh form; the later family's looks); each row that meets fmt, with fmt's text TOLD by the authors' own Lean function (tested against real Go, not proved from fmt's source: count such statements apart). THE CARD IS WHAT COUNTS. Prove the row's statement (the work); the ties are given (YtbnhhedfhfobfaaDoorTie.lean); close each card by the builder's one call (the guide's Derived/Test/ToyasCard.lean, 'card_holds'). Laid BY PROGRAM, IN A SANDBOX (cutbox-door.mjs). By AI agents, Wed Nov 11 2026. No macro, syntax, notation, axiom, sorry.
-/
import Derived.Test.YtbnhhedfhfobfaaDoorRows
import GoSem.ClaimSeven
namespace Go.Proofs.YtbnhhedfhfobfaaDoor
namespace Rows

/-- THE TIED CARD OF 'carousellaw12.BoxNil'. -/
def boxNilCard : Claim7 := { stood := { row := boxNilRow, standIns := [], harness := (true, "93fdea05765b618b529411917a4399d7a35be215cfab85826748c101e3114c2f"), looks := false }, kinds := [], alts := [], laidByText := true, laidKinds := [.data], laidTests := true, laidLooks := .later }
def BoxNilCardSaid : Prop := Claim7.holds Tryd.pinned (.plain (OpenSpec.ofChange boxNilSpec)) boxNilCard

/-- THE SECOND FORM's CARD OF 'carousellaw12.BoxNil'. -/
def boxNilUptoCard : Claim7 := { stood := { row := boxNilUptoRow, standIns := [], harness := (true, "93fdea05765b618b529411917a4399d7a35be215cfab85826748c101e3114c2f"), looks := false }, kinds := [], alts := [], laidByText := true, laidKinds := [.data], laidTests := true, laidLooks := .later }
def BoxNilUptoCardSaid : Prop := Claim7.holds Tryd.pinned (.plain (OpenSpec.upto boxNilSpec)) boxNilUptoCard
end Rows
end Go.Proofs.YtbnhhedfhfobfaaDoor
