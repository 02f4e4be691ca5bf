/-
  NARROWER THAN 'FOR EVERY INPUT', by the rows' own cells (each row's printed sentence says how): CodeCosts: laid.
  DERIVED. THE GIVEN ROWS OF THIS SEAT. 1 by the template 'for every input the law returns true; each argument reads behind the call as it read before'; 0 by the template 'total and deterministic' (their statements: YtgpgcjdneikokaaDoorTotals.lean).
  GIVEN WITH THE SEED: the statements are not yours to turn. If you find one false, say at which input.
  Laid BY PROGRAM, IN A SANDBOX (cutbox-rows.mjs): the forced cells as the released guide's own fill.sh prints them over the translation c020191d1239bb61… (all of the seat's roots in one cut). By AI agents, Wed Nov 11 2026. No macro, syntax, notation, axiom, sorry.
-/
import Derived.Test.YtgpgcjdneikokaaDoorChecked
import GoSem.Claim
import GoSem.ClaimJoined
import GoSem.ClaimMapViews
import Derived.JoinedTies
import Derived.KernelRfl
namespace Go.Proofs.YtgpgcjdneikokaaDoor
/- THE CELL 'sum', in the pinned program and in every row, IS THE sha256 OF THE DUMP (.gsa) THAT YtgpgcjdneikokaaDoorProg.lean LOADS. Nothing in Lean hashes anything: it is a label: what it is worth is what the hold of that sum in a sandbox is worth. -/
noncomputable def Tryd.pinned : Pinned := { name := "ytgpgcjdneikokaadoor", sum := "c020191d1239bb6122c95edee981f3248e77c312a0c81fa4dba6ab527c4e267b", checked := Tryd.checked }
namespace Rows
def none {H : Type} : Left H := { results := [], args := [] }

/- WHAT THE LISTED PACKAGE-LEVEL VARIABLES READ AS WHEN THE CALL BEGINS. Each datum BY PROGRAM (the guide's laid-datum.mjs) off the statement by which the dump's own 'gosem.cut.vars' lays the variable. In a bare row this is a premise. The card (YtgpgcjdneikokaaDoorCards.lean) ties it to the program's text. -/
def laid_carousel_text_kindNames {H : Type} : DataW H := .agg [.lit (.string []), .lit (.string [110, 105, 108]), .lit (.string [98, 111, 111, 108]), .lit (.string [105, 110, 116]), .lit (.string [99, 111, 109, 112, 108, 101, 120]), .lit (.string [97, 116, 111, 109]), .lit (.string [112, 105, 100]), .lit (.string [114, 101, 102]), .lit (.string [116, 117, 112, 108, 101]), .lit (.string [108, 105, 115, 116])]
def laid_carousel_code_names {H : Type} : DataW H := .agg [.lit (.string []), .lit (.string [112, 117, 115, 104]), .lit (.string [112, 111, 112]), .lit (.string [100, 117, 112]), .lit (.string [108, 111, 97, 100]), .lit (.string [115, 116, 111, 114, 101]), .lit (.string [97, 100, 100]), .lit (.string [115, 117, 98]), .lit (.string [109, 117, 108]), .lit (.string [100, 105, 118]), .lit (.string [114, 101, 109]), .lit (.string [110, 101, 103]), .lit (.string [99, 111, 110, 106]), .lit (.string [116, 117, 114, 110]), .lit (.string [101, 113]), .lit (.string [108, 101, 115, 115]), .lit (.string [110, 111, 116]), .lit (.string [107, 105, 110, 100]), .lit (.string [116, 117, 112, 108, 101]), .lit (.string [108, 105, 115, 116]), .lit (.string [101, 108, 101, 109]), .lit (.string [115, 105, 122, 101]), .lit (.string [99, 111, 110, 115]), .lit (.string [104, 101, 97, 100]), .lit (.string [116, 97, 105, 108]), .lit (.string [106, 117, 109, 112]), .lit (.string [105, 102]), .lit (.string [109, 97, 116, 99, 104]), .lit (.string [99, 97, 108, 108]), .lit (.string [114, 101, 116]), .lit (.string [115, 101, 108, 102]), .lit (.string [110, 111, 119]), .lit (.string [115, 101, 110, 100]), .lit (.string [114, 101, 99, 118]), .lit (.string [115, 112, 97, 119, 110]), .lit (.string [116, 105, 109, 101, 114]), .lit (.string [99, 97, 110, 99, 101, 108]), .lit (.string [108, 105, 110, 107]), .lit (.string [117, 110, 108, 105, 110, 107]), .lit (.string [109, 111, 110, 105, 116, 111, 114]), .lit (.string [100, 101, 109, 111, 110]), .lit (.string [116, 114, 97, 112]), .lit (.string [110, 97, 109, 101]), .lit (.string [119, 104, 101, 114, 101]), .lit (.string [111, 117, 116]), .lit (.string [101, 120, 105, 116]), .lit (.string [121, 105, 101, 108, 100])]

/-- 'carousellaw06.CodeCosts': WHATEVER THE INPUT: true; the input reads as it did. -/
def codeCostsSpec : ChangeSpec := { name := "codeCosts", fn := fun _ => fun
  | [d1, d2] => { results := [.lit (.bool true)], args := [d1, d2] }
  | _ => none }
def codeCostsRow : OpenClaim := { program := "ytgpgcjdneikokaadoor", sum := "c020191d1239bb6122c95edee981f3248e77c312a0c81fa4dba6ab527c4e267b", func := "carousel/carousellaw06.CodeCosts", spec := "codeCosts", inPlace := ["math.archTrunc", "math.Float64bits", "math.Float64frombits"], recurses := true, named := ["carousel/code.names", "carousel/text.kindNames"], apart := false, laid := [("carousel/text.kindNames", laid_carousel_text_kindNames), ("carousel/code.names", laid_carousel_code_names)] }
def CodeCostsSaid : Prop := codeCostsRow.holds Tryd.pinned (OpenSpec.ofChange codeCostsSpec)

/-- ITS FALSE NEIGHBOUR: 'it returns false'. Refute it at one input. -/
def codeCostsWrong : ChangeSpec := { name := "codeCosts", fn := fun _ => fun
  | [d1, d2] => { results := [.lit (.bool false)], args := [d1, d2] }
  | _ => none }
def CodeCostsWrongFalsely : Prop := codeCostsRow.holds Tryd.pinned (OpenSpec.ofChange codeCostsWrong)

/- THE SECOND FORM. 'bulk': how many values and letters a reading holds, each counted each time it is reached (what is shared counts as often as it is met; a slice's spare places count too). A statement '..UptoSaid' is the law's where the arguments, and the package variables that the reading takes, are together of bulk at most 1048576: NARROWER than '..Said'. Prove '..Said' where nothing that the law and all that it calls make is longer than what came in: it says more and counts as full. Else prove '..UptoSaid'. A law counts once. -/
mutual
def uptoBulk {H : Type} : DataW H → Nat
  | .lit (.string bytes) => bytes.length + 1
  | .lit _ => 1
  | .nil => 1
  | .ptr d => uptoBulk d + 1
  | .slice elems spare => uptoBulkAll elems + uptoBulkAll spare + 1
  | .agg parts => uptoBulkAll parts + 1
  | .iface _ d => uptoBulk d + 1
  | .map entries => uptoBulkEntries entries + 1
  | .held _ => 1
def uptoBulkAll {H : Type} : List (DataW H) → Nat
  | [] => 0
  | d :: r => uptoBulk d + uptoBulkAll r
def uptoBulkEntries {H : Type} : List (Lit × DataW H) → Nat
  | [] => 0
  | x :: r => uptoBulkEntry x + uptoBulkEntries r
def uptoBulkEntry {H : Type} : Lit × DataW H → Nat
  | (.string bytes, d) => bytes.length + uptoBulk d + 1
  | (_, d) => uptoBulk d + 1
 end
def uptoSmall : (H : Type) → List (DataW H) → Bool := fun _ ds => decide (uptoBulkAll ds ≤ 1048576)
def OpenSpec.upto (s : _root_.Go.ChangeSpec) : _root_.Go.OpenSpec := { _root_.Go.OpenSpec.ofChange s with cond := some uptoSmall }

/-- 'carousellaw06.CodeCosts', WHERE WHAT IT READS IS OF BULK AT MOST 1048576: true; the input reads as it did. -/
def codeCostsUptoRow : OpenClaim := { program := "ytgpgcjdneikokaadoor", sum := "c020191d1239bb6122c95edee981f3248e77c312a0c81fa4dba6ab527c4e267b", func := "carousel/carousellaw06.CodeCosts", spec := "codeCosts", inPlace := ["math.archTrunc", "math.Float64bits", "math.Float64frombits"], recurses := true, named := ["carousel/code.names", "carousel/text.kindNames"], apart := false, laid := [("carousel/text.kindNames", laid_carousel_text_kindNames), ("carousel/code.names", laid_carousel_code_names)], narrowed := true }
def CodeCostsUptoSaid : Prop := codeCostsUptoRow.holds Tryd.pinned (OpenSpec.upto codeCostsSpec)

end Rows
end Go.Proofs.YtgpgcjdneikokaaDoor
