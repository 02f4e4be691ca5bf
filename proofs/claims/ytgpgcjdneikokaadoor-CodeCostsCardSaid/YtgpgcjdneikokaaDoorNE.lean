/- The law CodeCosts, walked. -/
import Derived.Test.YtgpgcjdneikokaaDoorND
namespace Go.Proofs.YtgpgcjdneikokaaDoor
open Go.RowKit

theorem isOpB_no {n : Int} (h : isOpB n = false) : n < 1 ∨ 46 < n := by
  by_cases h1 : n < 1
  · exact .inl h1
  · exact .inr (by simp [isOpB] at h; omega)
/-- Op of any number. -/
theorem op_any (n : Int) (w : World) (hn : NM w) : Calls Tryd.prog 4 #[.int .i64 n] w fun e w' => ∃ s f, e = .returned (.tuple #[.string s, .int .i64 f]) ∧ w = w' := by
  by_cases h : isOpB n = true
  · obtain ⟨j, rfl, h1, h2⟩ := isOpB_yes h
    exact (op_yes j w h1 h2 hn).mono fun e w' ⟨he, hw⟩ => ⟨_, _, he, hw⟩
  · exact (op_no n w (by simpa using h)).mono fun e w' ⟨he, hw⟩ => ⟨_, _, he, hw⟩
set_option maxRecDepth 100000 in
set_option maxHeartbeats 4000000 in
theorem costs_no (a b : Int) (w : World) (hn : NM w) (h : isOpB a = false) : Calls Tryd.prog 3 #[.int .i64 a, .int .i64 b] w fun e w' => e = .returned (.bool true) ∧ Only [] w w' := by
  have HP := Lib.hid (fun w => op_no a w h)
  have HQ := Lib.hid (fun w hn => op_any b w hn)
  have HC := Lib.hid (fun w => cost_no a w h)
  have HA := Lib.hid (fun w hn => awake_any w hn)
  have HN := Lib.hid hn
  have hr := isOpB_no h
  clear hn h
  rcases hr with hr | hr
  · go_enter Tryd.func3, Tryd.ntmps3
    go_wp2_with fail
    (with_reducible refine (HP.out _).mono ?_)
    rintro e w1 ⟨rfl, rfl⟩
    go_wp2_with fail
    (with_reducible refine (HQ.out _ HN.out).mono ?_)
    rintro e w2 ⟨s, f, rfl, rfl⟩
    go_wp2_with fail
    (with_reducible refine (HC.out _).mono ?_)
    rintro e w3 ⟨rfl, o3⟩
    have N3 := Lib.hid (HN.out.same o3)
    have O3 := Lib.hid o3
    clear o3
    go_wp2_with fail
    (with_reducible refine (HA.out _ N3.out).mono ?_)
    rintro e w4 ⟨rfl, o4⟩
    have O4 := Lib.hid (O3.out.trans o4 (by simp))
    clear o4
    go_wp2_with fail
    go_ret
    exact ⟨rfl, O4.out⟩
  · have hr2 : ¬ a < 1 := by omega
    go_enter Tryd.func3, Tryd.ntmps3
    go_wp2_with fail
    (with_reducible refine (HP.out _).mono ?_)
    rintro e w1 ⟨rfl, rfl⟩
    go_wp2_with fail
    (with_reducible refine (HQ.out _ HN.out).mono ?_)
    rintro e w2 ⟨s, f, rfl, rfl⟩
    go_wp2_with fail
    (with_reducible refine (HC.out _).mono ?_)
    rintro e w3 ⟨rfl, o3⟩
    have N3 := Lib.hid (HN.out.same o3)
    have O3 := Lib.hid o3
    clear o3
    go_wp2_with fail
    (with_reducible refine (HA.out _ N3.out).mono ?_)
    rintro e w4 ⟨rfl, o4⟩
    have O4 := Lib.hid (O3.out.trans o4 (by simp))
    clear o4
    go_wp2_with fail
    go_ret
    exact ⟨rfl, O4.out⟩
set_option maxRecDepth 100000 in
set_option maxHeartbeats 4000000 in
theorem costs_yes (j : Nat) (b : Int) (w : World) (hn : NM w) (h1 : 1 ≤ j) (h2 : j < 47) : Calls Tryd.prog 3 #[.int .i64 (j : Int), .int .i64 b] w fun e w' => e = .returned (.bool true) ∧ Only [] w w' := by
  have HP := Lib.hid (fun w hn => op_yes j w h1 h2 hn)
  have HC := Lib.hid (fun w => cost_yes j w h1 h2)
  have HO := Lib.hid (fun w hn => opOf_any j w h1 h2 hn)
  have HA := Lib.hid (fun w hn => awake_any w hn)
  have HN := Lib.hid hn
  have hb : (isOpB b = false) ∨ (∃ k : Nat, b = (k : Int) ∧ 1 ≤ k ∧ k < 47) := by
    by_cases h : isOpB b = true
    · exact .inr (isOpB_yes h)
    · exact .inl (by simpa using h)
  clear hn
  obtain ⟨hc1, hc2⟩ := cst_in j h1 h2
  have hc3 : ¬ cst j < 1 := by omega
  have hc4 : ¬ 8 < cst j := by omega
  have hj1 : ¬ (j : Int) < 1 := by omega
  have hj2 : ¬ 46 < (j : Int) := by omega
  rcases hb with hb | ⟨k, rfl, k1, k2⟩
  · have HQ := Lib.hid (fun w => op_no b w hb)
    clear hb hc1 hc2
    go_enter Tryd.func3, Tryd.ntmps3
    go_wp2_with fail
    (with_reducible refine (HP.out _ HN.out).mono ?_)
    rintro e w1 ⟨rfl, rfl⟩
    go_wp2_with fail
    (with_reducible refine (HQ.out _).mono ?_)
    rintro e w2 ⟨rfl, rfl⟩
    go_wp2_with fail
    (with_reducible refine (HC.out _).mono ?_)
    rintro e w3 ⟨rfl, o3⟩
    have N3 := Lib.hid (HN.out.same o3)
    have O3 := Lib.hid o3
    clear o3
    go_wp2_with fail
    (with_reducible refine (HO.out _ N3.out).mono ?_)
    rintro e w4 ⟨rfl, rfl⟩
    go_wp2_with fail
    (with_reducible refine (HA.out _ N3.out).mono ?_)
    rintro e w5 ⟨rfl, o5⟩
    have O5 := Lib.hid (O3.out.trans o5 (by simp))
    clear o5
    go_wp2_with fail
    go_ret
    exact ⟨rfl, O5.out⟩
  · have HQ := Lib.hid (fun w hn => op_yes k w k1 k2 hn)
    clear hc1 hc2
    by_cases hjk : j = k
    · subst hjk
      clear k1 k2
      go_enter Tryd.func3, Tryd.ntmps3
      go_wp2_with fail
      (with_reducible refine (HP.out _ HN.out).mono ?_)
      rintro e w1 ⟨rfl, rfl⟩
      go_wp2_with fail
      (with_reducible refine (HP.out _ HN.out).mono ?_)
      rintro e w2 ⟨rfl, rfl⟩
      go_wp2_with fail
      (with_reducible refine (HC.out _).mono ?_)
      rintro e w3 ⟨rfl, o3⟩
      have N3 := Lib.hid (HN.out.same o3)
      have O3 := Lib.hid o3
      clear o3
      go_wp2_with fail
      (with_reducible refine (HO.out _ N3.out).mono ?_)
      rintro e w4 ⟨rfl, rfl⟩
      go_wp2_with fail
      (with_reducible refine (HA.out _ N3.out).mono ?_)
      rintro e w5 ⟨rfl, o5⟩
      have O5 := Lib.hid (O3.out.trans o5 (by simp))
      clear o5
      go_wp2_with fail
      go_ret
      exact ⟨rfl, O5.out⟩
    · have hs := nm_own j k h1 h2 k1 k2
      rw [decide_eq_false hjk] at hs
      have hji : ¬ (j : Int) = (k : Int) := by omega
      clear k1 k2
      go_enter Tryd.func3, Tryd.ntmps3
      go_wp2_with fail
      (with_reducible refine (HP.out _ HN.out).mono ?_)
      rintro e w1 ⟨rfl, rfl⟩
      go_wp2_with fail
      (with_reducible refine (HQ.out _ HN.out).mono ?_)
      rintro e w2 ⟨rfl, rfl⟩
      go_wp2_with fail
      (with_reducible refine (HC.out _).mono ?_)
      rintro e w3 ⟨rfl, o3⟩
      have N3 := Lib.hid (HN.out.same o3)
      have O3 := Lib.hid o3
      clear o3
      go_wp2_with fail
      (with_reducible refine (HO.out _ N3.out).mono ?_)
      rintro e w4 ⟨rfl, rfl⟩
      go_wp2_with fail
      (with_reducible refine (HA.out _ N3.out).mono ?_)
      rintro e w5 ⟨rfl, o5⟩
      have O5 := Lib.hid (O3.out.trans o5 (by simp))
      clear o5
      go_wp2_with fail
      go_ret
      exact ⟨ret_b (by simp [hji]), O5.out⟩
theorem costs_any (a b : Int) (w : World) (hn : NM w) : Calls Tryd.prog 3 #[.int .i64 a, .int .i64 b] w fun e w' => e = .returned (.bool true) ∧ Only [] w w' := by
  by_cases h : isOpB a = true
  · obtain ⟨j, rfl, h1, h2⟩ := isOpB_yes h
    exact costs_yes j b w hn h1 h2
  · exact costs_no a b w hn (by simpa using h)
end Go.Proofs.YtgpgcjdneikokaaDoor
