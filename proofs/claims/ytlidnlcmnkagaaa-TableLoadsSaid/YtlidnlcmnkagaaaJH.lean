/- The law TableFresh, of its arguments as they come. -/
import Derived.Test.YtlidnlcmnkagaaaJG
namespace Go.Proofs.Ytlidnlcmnkagaaa
open Go.RowKit
def kI : List Kd := [.i]
theorem decI {w : World} (cs : List Value) (h : Oks w kI cs) : ∃ a : Int, i64ok a ∧ cs = [.int .i64 a] := by
  simp only [kI, Oks, Kd.ok] at h
  obtain ⟨_, _, rfl, ⟨n, rfl, hn⟩, rfl⟩ := h
  exact ⟨n, hn, rfl⟩
theorem fresh_in {W : World} {v : Value} (room : Int) (h : Kd.ok W (.l kI 8) v) : Calls Try.prog 5 #[.int .i64 room, v] W fun e w' => e = .returned (.bool true) ∧ Only [] W w' := by
  obtain ⟨A, xs, cap, rfl, _, _, hb, hr, hg⟩ := RdS.of_ok KI rfl decI h
  exact fresh_any A cap room W hr (by rw [show KI.by' = 8 from rfl] at hb; omega)
end Go.Proofs.Ytlidnlcmnkagaaa
