/- The whole module awake of layer 10 answers true: its run, reckoned by the kernel. -/
import Derived.Test.YtafpakdoogdjaaaGreatDoorEl
import Derived.KernelRfl
namespace Go.Proofs.YtafpakdoogdjaaaGreatDoor
open Go.RowKit

noncomputable def E0 : Env := mkEnv Tryz.prog 9 9
theorem E0_ok : E0.Ok := mkEnv_ok _ _ _ (by kernel_rfl)
set_option maxRecDepth 1000000 in
theorem awake_run : runsTo E0 2 5000 50 11 #[] (.bool true) = true := by kernel_rfl
theorem awake_any (w : World) : Calls Tryz.prog 11 #[] w fun e w1 => e = .returned (.bool true) ∧ Only [] w w1 :=
  run_to E0_ok awake_run w
end Go.Proofs.YtafpakdoogdjaaaGreatDoor
