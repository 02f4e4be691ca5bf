/- The law BoxNil: its run, reckoned by the kernel, for whatever number of a lane. -/
import Derived.Test.YtbnhhedfhfobfaaDoorB0
import Derived.Test.YtbnhhedfhfobfaaDoorGShell
namespace Go.Proofs.YtbnhhedfhfobfaaDoor
open Go.RowKit
set_option maxRecDepth 1000000 in
theorem nil_run (n : Int) : runsTo E0 1 5000 50 3 #[.int .i64 n] (.bool true) = true := by kernel_rfl
theorem nil_any (n : Int) (w : World) : Calls Tryd.prog 3 #[.int .i64 n] w fun e w1 => e = .returned (.bool true) ∧ Only [] w w1 :=
  run_to E0_ok (nil_run n) w
end Go.Proofs.YtbnhhedfhfobfaaDoor
