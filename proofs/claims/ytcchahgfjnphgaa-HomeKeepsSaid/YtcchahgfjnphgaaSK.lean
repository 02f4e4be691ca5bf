/- What GShell says of the program, for a seat without []int. -/
import Derived.Test.YtcchahgfjnphgaaS2
import Derived.Test.YtcchahgfjnphgaaBase
namespace Go.Proofs.Ytcchahgfjnphgaa
open Go.ChangeShapes Go.WideShapes Go.ChangeAt Go.RowKit
theorem own_knob : ownKnob Try.prog.godebug = none := by kernel_rfl
theorem laid_out : laidOutB Try.prog = true := by kernel_rfl
theorem bounds_i64 {n : Int} (h : (Lit.int .i64 n).wf = true) : -9223372036854775808 ≤ n ∧ n ≤ 9223372036854775807 := by
  simp [Lit.wf, IntKind.min, IntKind.max, IntKind.signed, IntKind.bits] at h
  omega
end Go.Proofs.Ytcchahgfjnphgaa
