/-
  No cell of these rows narrows 'for every input' (looked for: loops, veiled, ifaces, maps, wideKeys, modest, calm, conditions, laid).
  DERIVED. THE GIVEN ROWS OF THIS SEAT. 3 by the template 'for every input the law returns true; each argument reads behind the call as it read before'; 0 by the template 'total and deterministic' (their statements: YtcchahgfjnphgaaTotals.lean).
  GIVEN WITH THE SEED: the statements are not yours to turn. If you find one false, say at which input.
  Laid BY PROGRAM, IN A SANDBOX (cutbox-rows.mjs): the forced cells as the released guide's own fill.sh prints them over the translation b00fd04ce84daaed… (all of the seat's roots in one cut). By AI agents, Wed Nov 11 2026. No macro, syntax, notation, axiom, sorry.
-/
import Derived.Test.YtcchahgfjnphgaaChecked
import GoSem.Claim
import GoSem.ClaimJoined
import GoSem.ClaimMapViews
import Derived.JoinedTies
import Derived.KernelRfl
namespace Go.Proofs.Ytcchahgfjnphgaa
/- THE CELL 'sum', in the pinned program and in every row, IS THE sha256 OF THE DUMP (.gsa) THAT YtcchahgfjnphgaaProg.lean LOADS. Nothing in Lean hashes anything: it is a label: what it is worth is what the hold of that sum in a sandbox is worth. -/
noncomputable def Try.pinned : Pinned := { name := "ytcchahgfjnphgaa", sum := "b00fd04ce84daaed2f88faa940df1b71332c7d490b792f0e3cd5f2726f754f0b", checked := Try.checked }
namespace Rows
def none {H : Type} : Left H := { results := [], args := [] }

/-- 'carousellaw17.HomeMod': WHATEVER THE INPUT: true; the input reads as it did. -/
def homeModSpec : ChangeSpec := { name := "homeMod", fn := fun _ => fun
  | [d1, d2] => { results := [.lit (.bool true)], args := [d1, d2] }
  | _ => none }
def homeModRow : OpenClaim := { program := "ytcchahgfjnphgaa", sum := "b00fd04ce84daaed2f88faa940df1b71332c7d490b792f0e3cd5f2726f754f0b", func := "carousel/carousellaw17.HomeMod", spec := "homeMod", apart := false }
def HomeModSaid : Prop := homeModRow.holds Try.pinned (OpenSpec.ofChange homeModSpec)

/-- ITS FALSE NEIGHBOUR: 'it returns false'. Refute it at one input. -/
def homeModWrong : ChangeSpec := { name := "homeMod", fn := fun _ => fun
  | [d1, d2] => { results := [.lit (.bool false)], args := [d1, d2] }
  | _ => none }
def HomeModWrongFalsely : Prop := homeModRow.holds Try.pinned (OpenSpec.ofChange homeModWrong)

/-- 'carousellaw17.HomeKeeps': WHATEVER THE INPUT: true; the input reads as it did. -/
def homeKeepsSpec : ChangeSpec := { name := "homeKeeps", fn := fun _ => fun
  | [d1, d2] => { results := [.lit (.bool true)], args := [d1, d2] }
  | _ => none }
def homeKeepsRow : OpenClaim := { program := "ytcchahgfjnphgaa", sum := "b00fd04ce84daaed2f88faa940df1b71332c7d490b792f0e3cd5f2726f754f0b", func := "carousel/carousellaw17.HomeKeeps", spec := "homeKeeps", apart := false }
def HomeKeepsSaid : Prop := homeKeepsRow.holds Try.pinned (OpenSpec.ofChange homeKeepsSpec)

/-- ITS FALSE NEIGHBOUR: 'it returns false'. Refute it at one input. -/
def homeKeepsWrong : ChangeSpec := { name := "homeKeeps", fn := fun _ => fun
  | [d1, d2] => { results := [.lit (.bool false)], args := [d1, d2] }
  | _ => none }
def HomeKeepsWrongFalsely : Prop := homeKeepsRow.holds Try.pinned (OpenSpec.ofChange homeKeepsWrong)

/-- 'carousellaw17.HomeNobody': WHATEVER THE INPUT: true; the input reads as it did. -/
def homeNobodySpec : ChangeSpec := { name := "homeNobody", fn := fun _ => fun
  | [d1, d2] => { results := [.lit (.bool true)], args := [d1, d2] }
  | _ => none }
def homeNobodyRow : OpenClaim := { program := "ytcchahgfjnphgaa", sum := "b00fd04ce84daaed2f88faa940df1b71332c7d490b792f0e3cd5f2726f754f0b", func := "carousel/carousellaw17.HomeNobody", spec := "homeNobody", apart := false }
def HomeNobodySaid : Prop := homeNobodyRow.holds Try.pinned (OpenSpec.ofChange homeNobodySpec)

/-- ITS FALSE NEIGHBOUR: 'it returns false'. Refute it at one input. -/
def homeNobodyWrong : ChangeSpec := { name := "homeNobody", fn := fun _ => fun
  | [d1, d2] => { results := [.lit (.bool false)], args := [d1, d2] }
  | _ => none }
def HomeNobodyWrongFalsely : Prop := homeNobodyRow.holds Try.pinned (OpenSpec.ofChange homeNobodyWrong)

/- THE SECOND FORM. 'bulk': how many values and letters a reading holds, each counted each time it is reached (what is shared counts as often as it is met; a slice's spare places count too). A statement '..UptoSaid' is the law's where the arguments, and the package variables that the reading takes, are together of bulk at most 1048576: NARROWER than '..Said'. Prove '..Said' where nothing that the law and all that it calls make is longer than what came in: it says more and counts as full. Else prove '..UptoSaid'. A law counts once. -/
mutual
def uptoBulk {H : Type} : DataW H → Nat
  | .lit (.string bytes) => bytes.length + 1
  | .lit _ => 1
  | .nil => 1
  | .ptr d => uptoBulk d + 1
  | .slice elems spare => uptoBulkAll elems + uptoBulkAll spare + 1
  | .agg parts => uptoBulkAll parts + 1
  | .iface _ d => uptoBulk d + 1
  | .map entries => uptoBulkEntries entries + 1
  | .held _ => 1
def uptoBulkAll {H : Type} : List (DataW H) → Nat
  | [] => 0
  | d :: r => uptoBulk d + uptoBulkAll r
def uptoBulkEntries {H : Type} : List (Lit × DataW H) → Nat
  | [] => 0
  | x :: r => uptoBulkEntry x + uptoBulkEntries r
def uptoBulkEntry {H : Type} : Lit × DataW H → Nat
  | (.string bytes, d) => bytes.length + uptoBulk d + 1
  | (_, d) => uptoBulk d + 1
 end
def uptoSmall : (H : Type) → List (DataW H) → Bool := fun _ ds => decide (uptoBulkAll ds ≤ 1048576)
def OpenSpec.upto (s : _root_.Go.ChangeSpec) : _root_.Go.OpenSpec := { _root_.Go.OpenSpec.ofChange s with cond := some uptoSmall }

/-- 'carousellaw17.HomeMod', WHERE WHAT IT READS IS OF BULK AT MOST 1048576: true; the input reads as it did. -/
def homeModUptoRow : OpenClaim := { program := "ytcchahgfjnphgaa", sum := "b00fd04ce84daaed2f88faa940df1b71332c7d490b792f0e3cd5f2726f754f0b", func := "carousel/carousellaw17.HomeMod", spec := "homeMod", apart := false, narrowed := true }
def HomeModUptoSaid : Prop := homeModUptoRow.holds Try.pinned (OpenSpec.upto homeModSpec)

/-- 'carousellaw17.HomeKeeps', WHERE WHAT IT READS IS OF BULK AT MOST 1048576: true; the input reads as it did. -/
def homeKeepsUptoRow : OpenClaim := { program := "ytcchahgfjnphgaa", sum := "b00fd04ce84daaed2f88faa940df1b71332c7d490b792f0e3cd5f2726f754f0b", func := "carousel/carousellaw17.HomeKeeps", spec := "homeKeeps", apart := false, narrowed := true }
def HomeKeepsUptoSaid : Prop := homeKeepsUptoRow.holds Try.pinned (OpenSpec.upto homeKeepsSpec)

/-- 'carousellaw17.HomeNobody', WHERE WHAT IT READS IS OF BULK AT MOST 1048576: true; the input reads as it did. -/
def homeNobodyUptoRow : OpenClaim := { program := "ytcchahgfjnphgaa", sum := "b00fd04ce84daaed2f88faa940df1b71332c7d490b792f0e3cd5f2726f754f0b", func := "carousel/carousellaw17.HomeNobody", spec := "homeNobody", apart := false, narrowed := true }
def HomeNobodyUptoSaid : Prop := homeNobodyUptoRow.holds Try.pinned (OpenSpec.upto homeNobodySpec)

end Rows
end Go.Proofs.Ytcchahgfjnphgaa
