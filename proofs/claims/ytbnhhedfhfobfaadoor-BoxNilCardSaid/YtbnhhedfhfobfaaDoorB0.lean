/- The law BoxNil: its run, reckoned by the kernel, for whatever number of a lane. -/
import Derived.Test.YtbnhhedfhfobfaaDoorEl
import Derived.KernelRfl
namespace Go.Proofs.YtbnhhedfhfobfaaDoor
open Go.RowKit

noncomputable def E0 : Env := mkEnv Tryd.prog 9 9
theorem E0_ok : E0.Ok := mkEnv_ok _ _ _ (by kernel_rfl)
set_option maxRecDepth 1000000 in
theorem awake_run : runsTo E0 1 5000 50 12 #[] (.bool true) = true := by kernel_rfl
theorem awake_any (w : World) : Calls Tryd.prog 12 #[] w fun e w1 => e = .returned (.bool true) ∧ Only [] w w1 :=
  run_to E0_ok awake_run w
end Go.Proofs.YtbnhhedfhfobfaaDoor
