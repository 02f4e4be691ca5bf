/- The law TableNames, of its argument as it comes. -/
import Derived.Test.YtlidnlcmnkagaaaJD
import Derived.Test.YtlidnlcmnkagaaaGShell
namespace Go.Proofs.Ytlidnlcmnkagaaa
open Go.RowKit
theorem names_in {W : World} {v : Value} (h : Kd.ok W (.l kN 32) v) : Calls Try.prog 6 #[v] W fun e w' => e = .returned (.bool true) ∧ Only [] W w' := by
  obtain ⟨A, xs, cap, rfl, _, _, hb, hr, hg⟩ := RdS.of_ok KN rfl decN h
  exact names_any cap W hr (by rw [show KN.by' = 32 from rfl] at hb; omega) hg
end Go.Proofs.Ytlidnlcmnkagaaa
