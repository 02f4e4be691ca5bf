/-
  DERIVED. GIVEN WITH THE SEED: THE CARDS: each row of YtlpafnibcmcjgaaGreatDoorRows.lean that lists a variable, with what it lists TIED to the program's text (the seventh form; the later family's looks); each row that meets fmt, with fmt's text TOLD by the authors' own Lean function (tested against real Go, not proved from fmt's source: count such statements apart). THE CARD IS WHAT COUNTS. Prove the row's statement (the work); the ties are given (YtlpafnibcmcjgaaGreatDoorTie.lean); close each card by the builder's one call (the guide's Derived/Test/ToyasCard.lean, 'card_holds'). Laid BY PROGRAM, IN A SANDBOX (cutbox-door.mjs). By AI agents, Wed Nov 11 2026. No macro, syntax, notation, axiom, sorry.
-/
import Derived.Test.YtlpafnibcmcjgaaGreatDoorRows
import GoSem.ClaimSeven
namespace Go.Proofs.YtlpafnibcmcjgaaGreatDoor
namespace Rows

/-- THE TIED CARD OF 'carousellaw04.TextParses'. -/
def textParsesCard : Claim7 := { stood := { row := textParsesRow, standIns := [], harness := (true, "2ebce5469876246216974c662b5a5f2d36b5c3748cbc41f95e3bb1f7ae886877"), looks := true }, kinds := [], alts := [], laidByText := true, laidKinds := [.data, .data, .data, .data, .sentinel, .sentinel, .pinned], laidTests := true, laidLooks := .later }
def TextParsesCardSaid : Prop := Claim7.holds Tryz.pinned (.plain (OpenSpec.ofChange textParsesSpec)) textParsesCard

/-- THE TIED CARD OF 'carousellaw04.TextHeads'. -/
def textHeadsCard : Claim7 := { stood := { row := textHeadsRow, standIns := [], harness := (true, "2ebce5469876246216974c662b5a5f2d36b5c3748cbc41f95e3bb1f7ae886877"), looks := true }, kinds := [], alts := [], laidByText := true, laidKinds := [.data, .data, .data, .data, .sentinel, .sentinel, .pinned], laidTests := true, laidLooks := .later }
def TextHeadsCardSaid : Prop := Claim7.holds Tryz.pinned (.plain (OpenSpec.ofChange textHeadsSpec)) textHeadsCard

/-- THE TIED CARD OF 'carousellaw05.PatternParses'. -/
def patternParsesCard : Claim7 := { stood := { row := patternParsesRow, standIns := [], harness := (true, "2ebce5469876246216974c662b5a5f2d36b5c3748cbc41f95e3bb1f7ae886877"), looks := true }, kinds := [], alts := [], laidByText := true, laidKinds := [.data, .data, .data, .data, .sentinel, .sentinel, .data, .pinned], laidTests := true, laidLooks := .later }
def PatternParsesCardSaid : Prop := Claim7.holds Tryz.pinned (.plain (OpenSpec.ofChange patternParsesSpec)) patternParsesCard

/-- THE SECOND FORM's CARD OF 'carousellaw04.TextParses'. -/
def textParsesUptoCard : Claim7 := { stood := { row := textParsesUptoRow, standIns := [], harness := (true, "2ebce5469876246216974c662b5a5f2d36b5c3748cbc41f95e3bb1f7ae886877"), looks := true }, kinds := [], alts := [], laidByText := true, laidKinds := [.data, .data, .data, .data, .sentinel, .sentinel, .pinned], laidTests := true, laidLooks := .later }
def TextParsesUptoCardSaid : Prop := Claim7.holds Tryz.pinned (.plain (OpenSpec.upto textParsesSpec)) textParsesUptoCard

/-- THE SECOND FORM's CARD OF 'carousellaw04.TextHeads'. -/
def textHeadsUptoCard : Claim7 := { stood := { row := textHeadsUptoRow, standIns := [], harness := (true, "2ebce5469876246216974c662b5a5f2d36b5c3748cbc41f95e3bb1f7ae886877"), looks := true }, kinds := [], alts := [], laidByText := true, laidKinds := [.data, .data, .data, .data, .sentinel, .sentinel, .pinned], laidTests := true, laidLooks := .later }
def TextHeadsUptoCardSaid : Prop := Claim7.holds Tryz.pinned (.plain (OpenSpec.upto textHeadsSpec)) textHeadsUptoCard

/-- THE SECOND FORM's CARD OF 'carousellaw05.PatternParses'. -/
def patternParsesUptoCard : Claim7 := { stood := { row := patternParsesUptoRow, standIns := [], harness := (true, "2ebce5469876246216974c662b5a5f2d36b5c3748cbc41f95e3bb1f7ae886877"), looks := true }, kinds := [], alts := [], laidByText := true, laidKinds := [.data, .data, .data, .data, .sentinel, .sentinel, .data, .pinned], laidTests := true, laidLooks := .later }
def PatternParsesUptoCardSaid : Prop := Claim7.holds Tryz.pinned (.plain (OpenSpec.upto patternParsesSpec)) patternParsesUptoCard
end Rows
end Go.Proofs.YtlpafnibcmcjgaaGreatDoor
