/- make of one or two Booleans. -/
import Derived.Test.YtgpgcjdneikokaaDoorN7
namespace Go.Proofs.YtgpgcjdneikokaaDoor
open Go.RowKit

theorem bool_info : (Tryd.prog.info? 4).map (fun i => (i.zero, i.size, i.bytes)) = some (some (.bool false), 1, 1) := by kernel_rfl
theorem make_b1 (w : World) : (Instr.makeSlice 65 (.int .i64 1) (.int .i64 1)).run Tryd.prog w = .ok (.slice (some ⟨w.heap.size, 0, none⟩) 1 1) (w.alloc (.cells #[.bool false] 4)) := by
  have h := run_make_row' (P := Tryd.prog) 65 4 (.bool false) 1 Tryd.underlying65 bool_info rfl .i64 .i64 1 (by omega) (by omega) w
  rw [show madeCells #[Value.bool false] 1 = #[.bool false] from by kernel_rfl] at h
  exact h
theorem make_b2 (w : World) : (Instr.makeSlice 65 (.int .i64 2) (.int .i64 2)).run Tryd.prog w = .ok (.slice (some ⟨w.heap.size, 0, none⟩) 2 2) (w.alloc (.cells #[.bool false, .bool false] 4)) := by
  have h := run_make_row' (P := Tryd.prog) 65 4 (.bool false) 1 Tryd.underlying65 bool_info rfl .i64 .i64 2 (by omega) (by omega) w
  rw [show madeCells #[Value.bool false] 2 = #[.bool false, .bool false] from by kernel_rfl] at h
  exact h
end Go.Proofs.YtgpgcjdneikokaaDoor
