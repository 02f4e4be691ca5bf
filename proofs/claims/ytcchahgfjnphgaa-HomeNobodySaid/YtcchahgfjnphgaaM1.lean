/- Euclid's remainder: the document's Mod. -/
import Derived.Test.YtcchahgfjnphgaaS1
import Derived.Test.YtcchahgfjnphgaaTail
namespace Go.Proofs.Ytcchahgfjnphgaa
open Go.RowKit

def modF (raw n : Int) : Int × Int := if n < 1 then (0, 1) else (raw % n, 0)
def twoV (p : Int × Int) : Value := .tuple #[.int .i64 p.1, .int .i64 p.2]
theorem tmod_bd (raw n : Int) (h : 1 ≤ n) : -n < raw.tmod n ∧ raw.tmod n < n := by
  have h1 := Int.tmod_lt_of_pos raw (show 0 < n by omega)
  have h2 := Int.lt_tmod_of_pos raw (show 0 < n by omega)
  exact ⟨by omega, h1⟩
theorem emod_of_tmod (raw n : Int) (h : 1 ≤ n) : raw % n = if raw.tmod n < 0 then raw.tmod n + n else raw.tmod n := by
  have hb := tmod_bd raw n h
  have he : raw % n = (raw.tmod n) % n := by
    conv => lhs; rw [← Int.mul_tdiv_add_tmod raw n]
    rw [Int.add_comm, Int.add_mul_emod_self_left]
  rw [he]
  split
  · rw [← Int.add_emod_right]
    exact Int.emod_eq_of_lt (by omega) (by omega)
  · exact Int.emod_eq_of_lt (by omega) (by omega)
set_option maxHeartbeats 1000000 in
theorem rmod_any (raw n : Int) (w : World) (h2 : n ≤ 9223372036854775807) :
    Calls Try.prog 7 #[.int .i64 raw, .int .i64 n] w fun e w' => e = .returned (twoV (modF raw n)) ∧ w = w' := by
  by_cases hn : n < 1
  · have e : modF raw n = (0, 1) := if_pos hn
    rw [e]
    go_enter Try.func7, Try.ntmps7
    go_wp2_with fail
    go_ret2
    exact ⟨rfl, rfl⟩
  · have e : modF raw n = (raw % n, 0) := if_neg hn
    have hb := tmod_bd raw n (by omega)
    have he := emod_of_tmod raw n (by omega)
    rw [e]
    by_cases ht : raw.tmod n < 0
    · rw [if_pos ht] at he
      have HE := Lib.hid he
      have hn0 : (n == 0) = false := by simp; omega
      clear he e
      go_enter Try.func7, Try.ntmps7
      go_wp2_with fail
      go_ret2
      exact ⟨by rw [HE.out]; rfl, rfl⟩
    · rw [if_neg ht] at he
      have HE := Lib.hid he
      have hn0 : (n == 0) = false := by simp; omega
      clear he e
      go_enter Try.func7, Try.ntmps7
      go_wp2_with fail
      go_ret2
      exact ⟨by rw [HE.out]; rfl, rfl⟩
end Go.Proofs.Ytcchahgfjnphgaa
