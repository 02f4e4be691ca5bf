/- The law HomeMod, given what the program's Mod answers. -/
import Derived.Test.YtcchahgfjnphgaaM1
namespace Go.Proofs.Ytcchahgfjnphgaa
open Go.RowKit

/-- What is asked of the program's Mod, and of the law's awake. -/
def ModOk : Prop := ∀ (raw n : Int) (w : World), (-9223372036854775808 ≤ raw ∧ raw ≤ 9223372036854775807) → (-9223372036854775808 ≤ n ∧ n ≤ 9223372036854775807) → Calls Try.prog 6 #[.int .i64 raw, .int .i64 n] w fun e w' => e = .returned (twoV (modF raw n)) ∧ Only [] w w'
def AwakeOk17 : Prop := ∀ w : World, Calls Try.prog 8 #[] w fun e w' => e = .returned (.bool true) ∧ Only [] w w'
theorem mod_zero {raw n : Int} : (raw - raw % n).tmod n = 0 :=
  Int.tmod_eq_zero_of_dvd ⟨raw / n, by have := Int.mul_ediv_add_emod raw n; omega⟩
/-- The multiple below a number is within 64 bits, if the number is not too far down. -/
theorem mod_low {raw n : Int} (h : 1 ≤ n) (hn : n ≤ 9223372036854775807) (hr : -4611686018427387904 < raw) : -9223372036854775808 ≤ raw - raw % n := by
  have hb := Int.emod_nonneg raw (show n ≠ 0 by omega)
  have hl := Int.emod_lt_of_pos raw (show 0 < n by omega)
  by_cases h0 : 0 ≤ raw
  · have h3 := Int.mul_nonneg (show 0 ≤ n by omega) (Int.ediv_nonneg h0 (show 0 ≤ n by omega))
    have h4 := Int.mul_ediv_add_emod raw n
    omega
  · by_cases h1 : n ≤ 4611686018427387904
    · omega
    · have : raw % n = raw + n := by
        rw [← Int.add_emod_right]
        exact Int.emod_eq_of_lt (by omega) (by omega)
      omega
theorem mod_next {raw n : Int} (h : 1 ≤ n) : (raw + 1) % n = (raw % n + 1).tmod n := by
  have hb := Int.emod_nonneg raw (show n ≠ 0 by omega)
  rw [Int.tmod_eq_emod_of_nonneg (by omega), Int.emod_add_emod]
set_option maxHeartbeats 4000000 in
theorem hmod_any (hM : ModOk) (hA : AwakeOk17) (raw n : Int) (w : World) (h1 : -9223372036854775808 ≤ raw ∧ raw ≤ 9223372036854775807) (h2 : -9223372036854775808 ≤ n ∧ n ≤ 9223372036854775807) :
    Calls Try.prog 3 #[.int .i64 raw, .int .i64 n] w fun e w' => e = .returned (.bool true) ∧ Only [] w w' := by
  have K1 := hM raw n w h1 h2
  by_cases hn : n < 1
  · have e : modF raw n = (0, 1) := if_pos hn
    rw [e] at K1
    have K1 := Lib.hid K1
    go_enter Try.func3, Try.ntmps3
    go_wp2_with fail
    (with_reducible refine K1.out.mono ?_)
    rintro e1 w1 ⟨rfl, o1⟩
    have K2 := rmod_any raw n w1 h2.2
    rw [e] at K2
    have K2 := Lib.hid K2
    simp only [twoV]
    have O1 := Lib.hid o1
    clear K1 o1
    go_wp2_with fail
    (with_reducible refine K2.out.mono ?_)
    rintro e2 w2 ⟨rfl, rfl⟩
    have K3 := Lib.hid (hA w1)
    simp only [twoV]
    clear K2
    go_wp2_with fail
    (with_reducible refine K3.out.mono ?_)
    rintro e3 w3 ⟨rfl, o3⟩
    go_wp2_with fail
    go_ret
    exact ⟨rfl, O1.out.trans o3 (by simp)⟩
  · have e : modF raw n = (raw % n, 0) := if_neg hn
    rw [e] at K1
    have K1 := Lib.hid K1
    have hb0 := Int.emod_nonneg raw (show n ≠ 0 by omega)
    have hb1 := Int.emod_lt_of_pos raw (show 0 < n by omega)
    have HZ := Lib.hid (mod_zero (raw := raw) (n := n))
    have HL := Lib.hid (fun hr => mod_low (raw := raw) (show 1 ≤ n by omega) h2.2 hr)
    have HN := Lib.hid (mod_next (raw := raw) (show 1 ≤ n by omega))
    have E := Lib.hid e
    clear e
    go_enter Try.func3, Try.ntmps3
    go_wp2_with fail
    (with_reducible refine K1.out.mono ?_)
    rintro e1 w1 ⟨rfl, o1⟩
    have K2 := rmod_any raw n w1 h2.2
    rw [E.out] at K2
    have K2 := Lib.hid K2
    simp only [twoV]
    have O1 := Lib.hid o1
    clear K1 o1
    go_wp2_with fail
    (with_reducible refine K2.out.mono ?_)
    rintro e2 w2 ⟨rfl, rfl⟩
    have K3 := Lib.hid (hA w1)
    have hk : ∃ k, raw % n = k := ⟨_, rfl⟩
    simp only [twoV]
    clear K2
    have t0 : (raw % n != raw % n) = false := bne_self_eq_false _
    have q0 : decide (raw % n < 0) = false := decide_eq_false (by omega)
    have q1 : decide (n ≤ raw % n) = false := decide_eq_false (by omega)
    have hn0 : (n == 0) = false := by simp; omega
    by_cases hr : -4611686018427387904 < raw
    · have w0 : IntKind.i64.wrap (raw - raw % n) = raw - raw % n := IntWalk.i64_in _ ⟨HL.out hr, by omega⟩
      have z0 := HZ.out
      go_upto_region 9 with fail
      clear z0
      by_cases hm : raw = 9223372036854775807
      · subst hm
        go_wp2_with fail
        (with_reducible refine K3.out.mono ?_)
        rintro e3 w3 ⟨rfl, o3⟩
        go_wp2_with fail
        go_ret
        exact ⟨rfl, O1.out.trans o3 (by simp)⟩
      · have m0 : (raw == 9223372036854775807) = false := by simpa using hm
        have e2 : modF (raw + 1) n = ((raw % n + 1).tmod n, 0) := by rw [modF, if_neg (by omega), HN.out]
        have K4 := hM (raw + 1) n w1 (by omega) h2
        rw [e2] at K4
        have K4 := Lib.hid K4
        have b5 := tmod_bd (raw % n + 1) n (by omega)
        clear e2
        go_wp2_with fail
        (with_reducible refine K4.out.mono ?_)
        rintro e5 w5 ⟨rfl, o5⟩
        have K6 := Lib.hid (hA w5)
        have O5 := Lib.hid (O1.out.trans o5 (by simp))
        have t9 : ((raw % n + 1).tmod n == (raw % n + 1).tmod n) = true := beq_self_eq_true _
        simp only [twoV]
        clear o5 K4
        go_wp2_with fail
        (with_reducible refine K6.out.mono ?_)
        rintro e6 w6 ⟨rfl, o6⟩
        go_wp2_with fail
        go_ret
        exact ⟨rfl, O5.out.trans o6 (by simp)⟩
    · go_upto_region 9 with fail
      all_goals
        have m0 : (raw == 9223372036854775807) = false := by simp; omega
        have e2 : modF (raw + 1) n = ((raw % n + 1).tmod n, 0) := by rw [modF, if_neg (by omega), HN.out]
        have K4 := hM (raw + 1) n w1 (by omega) h2
        rw [e2] at K4
        have K4 := Lib.hid K4
        have b5 := tmod_bd (raw % n + 1) n (by omega)
        clear e2
        go_wp2_with fail
        (with_reducible refine K4.out.mono ?_)
        rintro e5 w5 ⟨rfl, o5⟩
        have K6 := Lib.hid (hA w5)
        have O5 := Lib.hid (O1.out.trans o5 (by simp))
        have t9 : ((raw % n + 1).tmod n == (raw % n + 1).tmod n) = true := beq_self_eq_true _
        simp only [twoV]
        clear o5 K4
        go_wp2_with fail
        (with_reducible refine K6.out.mono ?_)
        rintro e6 w6 ⟨rfl, o6⟩
        go_wp2_with fail
        go_ret
        exact ⟨rfl, O5.out.trans o6 (by simp)⟩
end Go.Proofs.Ytcchahgfjnphgaa
