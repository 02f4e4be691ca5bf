/- The law TimerNobody: its run, reckoned by the kernel, for whatever number and pid. -/
import Derived.Test.YtihlhmphgjlngaaEl
import Derived.KernelRfl
namespace Go.Proofs.Ytihlhmphgjlngaa
open Go.RowKit

noncomputable def E0 : Env := mkEnv Try.prog 9 9
theorem E0_ok : E0.Ok := mkEnv_ok _ _ _ (by kernel_rfl)
set_option maxRecDepth 1000000 in
theorem nobody_run (n a b : Int) : runsTo E0 1 5000 50 3 #[.int .i64 n, .agg #[.int .i64 a, .int .i64 b]] (.bool true) = true := by kernel_rfl
end Go.Proofs.Ytihlhmphgjlngaa
