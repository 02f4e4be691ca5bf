/- The law TimerNobody, of whatever number and pid. -/
import Derived.Test.YtihlhmphgjlngaaTn0
import Derived.Test.YtihlhmphgjlngaaSK
namespace Go.Proofs.Ytihlhmphgjlngaa
open Go.RowKit
def kPid : List Kd := [.i, .i]
theorem nobody_any (n : Int) {l : List Value} {W0 : World} (h : Oks W0 kPid l) (w : World) : Calls Try.prog 3 #[.int .i64 n, .agg ⟨l⟩] w fun e w1 => e = .returned (.bool true) ∧ Only [] w w1 := by
  simp only [kPid, Oks, Kd.ok] at h
  obtain ⟨_, _, rfl, ⟨a, rfl, _⟩, _, _, rfl, ⟨b, rfl, _⟩, rfl⟩ := h
  exact run_to E0_ok (nobody_run n a b) w
end Go.Proofs.Ytihlhmphgjlngaa
