/- The law TableLoads, of its arguments as they come. -/
import Derived.Test.YtlidnlcmnkagaaaJP
import Derived.Test.YtlidnlcmnkagaaaJH
namespace Go.Proofs.Ytlidnlcmnkagaaa
open Go.RowKit
theorem decB {w : World} (cs : List Value) (h : Oks w [.s] cs) : ∃ a : ByteArray, a.size ≤ 140737488351232 ∧ cs = [.string a] := by
  simp only [Oks, Kd.ok] at h
  obtain ⟨_, _, rfl, ⟨s, rfl, hs⟩, rfl⟩ := h
  exact ⟨s, by omega, rfl⟩
theorem tloads_in {W : World} {v0 v1 v2 : Value} (h0 : Kd.ok W (.l kI 8) v0) (h1 : Kd.ok W (.l kP 16) v1) (h2 : Kd.ok W (.l [.s] 16) v2) : Calls Try.prog 4 #[v0, v1, v2] W fun e w' => e = .returned (.bool true) ∧ Only [] W w' := by
  obtain ⟨A, xs, ca, rfl, _, _, hb0, hr0, _⟩ := RdS.of_ok KI rfl decI h0
  obtain ⟨B, ys, cb, rfl, _, _, hb1, hr1, _⟩ := RdS.of_ok KP rfl decP h1
  obtain ⟨C, zs, cc, rfl, _, _, hb2, hr2, hg2⟩ := RdS.of_ok KS rfl decB h2
  rw [show KI.by' = 8 from rfl] at hb0
  rw [show KP.by' = 16 from rfl] at hb1
  rw [show KS.by' = 16 from rfl] at hb2
  exact tloads_any ca cb cc hr0 hr1 hr2 (by omega) (by omega) (by omega) hg2
end Go.Proofs.Ytlidnlcmnkagaaa
