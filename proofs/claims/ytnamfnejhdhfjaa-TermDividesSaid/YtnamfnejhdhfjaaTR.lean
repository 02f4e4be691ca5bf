/- The document's Check and Binary, of two ints. -/
import Derived.Test.YtnamfnejhdhfjaaTD
namespace Go.Proofs.Ytnamfnejhdhfjaa
open Go.RowKit

theorem rzero (w : World) : Calls Try.prog 65 #[.complex .f64 0 0] w fun e w' => e = .returned (.bool true) ∧ w = w' := by
  have z0 := z64
  go_enter Try.func65, Try.ntmps65
  go_wp2_with fail
  go_ret
  exact ⟨rfl, rfl⟩
set_option maxHeartbeats 1000000 in
theorem rone_yes (n : Int) (w : World) (h : OkInt n) : Calls Try.prog 60 #[.agg #[.int .i64 3, .int .i64 n, .complex .f64 0 0, .string ⟨#[]⟩, .int .i64 0, .int .i64 0, .slice none 0 0]] w fun e w' => e = .returned (.bool true) ∧ Only [] w w' := by
  obtain ⟨h1, h2⟩ := h
  have e0 := eqPid
  have e1 : (n == n) = true := beq_self_eq_true _
  go_enter Try.func60, Try.ntmps60
  have rs := store_com
  go_wp2_with fail
  (with_reducible refine (rzero _).mono ?_)
  rintro e w' ⟨rfl, rfl⟩
  go_wp2_with fail
  go_ret
  exact ⟨rfl, ((Only.refl _ _).alloc _).alloc _⟩
set_option maxHeartbeats 1000000 in
theorem rone_no (n : Int) (w : World) (h : ¬ OkInt n) : Calls Try.prog 60 #[.agg #[.int .i64 3, .int .i64 n, .complex .f64 0 0, .string ⟨#[]⟩, .int .i64 0, .int .i64 0, .slice none 0 0]] w fun e w' => e = .returned (.bool false) ∧ Only [] w w' := by
  by_cases h1 : -4611686018427387903 ≤ n
  · have h2 : decide (n ≤ 4611686018427387903) = false := by
      simp only [OkInt] at h
      exact decide_eq_false (by omega)
    clear h
    go_enter Try.func60, Try.ntmps60
    have rs := store_com
    go_wp2_with fail
    go_ret
    exact ⟨rfl, ((Only.refl _ _).alloc _).alloc _⟩
  · have h2 : decide (-4611686018427387903 ≤ n) = false := by simpa using h1
    clear h
    go_enter Try.func60, Try.ntmps60
    have rs := store_com
    go_wp2_with fail
    go_ret
    exact ⟨rfl, ((Only.refl _ _).alloc _).alloc _⟩
theorem rwalk_yes (n : Int) (w : World) (h : OkInt n) : Calls Try.prog 43 #[.agg #[.int .i64 3, .int .i64 n, .complex .f64 0 0, .string ⟨#[]⟩, .int .i64 0, .int .i64 0, .slice none 0 0], .int .i64 0, .int .i64 0] w fun e w' => e = .returned (.tuple #[.int .i64 1, .int .i64 0]) ∧ Only [] w w' := by
  have H := Lib.hid h
  clear h
  go_enter Try.func43, Try.ntmps43
  go_wp2_with fail
  (with_reducible refine (rone_yes _ _ H.out).mono ?_)
  rintro e w1 ⟨rfl, o1⟩
  have O1 := Lib.hid (((Only.refl [] w).alloc (.cells #[.int .i64 3, .int .i64 n, .complex .f64 0 0, .string ⟨#[]⟩, .int .i64 0, .int .i64 0, .slice none 0 0] 27)).trans o1 (by simp))
  obtain ⟨a0, a1, a2, a3, a4, a5, a6⟩ := ((Bk.made w 27 #[.int .i64 3, .int .i64 n, .complex .f64 0 0, .string ⟨#[]⟩, .int .i64 0, .int .i64 0, .slice none 0 0]).only o1 (by simp)).seven
  clear o1
  go_wp2_with fail
  refine wp_loop_rounds 1 ?_
  rw [rounds_succ]
  go_wp2_with fail
  go_ret2
  exact ⟨rfl, O1.out⟩
theorem rwalk_no (n : Int) (w : World) (h : ¬ OkInt n) : Calls Try.prog 43 #[.agg #[.int .i64 3, .int .i64 n, .complex .f64 0 0, .string ⟨#[]⟩, .int .i64 0, .int .i64 0, .slice none 0 0], .int .i64 0, .int .i64 0] w fun e w' => e = .returned (.tuple #[.int .i64 0, .int .i64 30]) ∧ Only [] w w' := by
  have H := Lib.hid h
  clear h
  go_enter Try.func43, Try.ntmps43
  go_wp2_with fail
  (with_reducible refine (rone_no _ _ H.out).mono ?_)
  rintro e w1 ⟨rfl, o1⟩
  have O1 := Lib.hid (((Only.refl [] w).alloc (.cells #[.int .i64 3, .int .i64 n, .complex .f64 0 0, .string ⟨#[]⟩, .int .i64 0, .int .i64 0, .slice none 0 0] 27)).trans o1 (by simp))
  clear o1
  go_wp2_with fail
  go_ret2
  exact ⟨rfl, O1.out⟩
theorem rcheck_of (n m r : Int) (w : World) (hw : ∀ w, Calls Try.prog 43 #[.agg #[.int .i64 3, .int .i64 n, .complex .f64 0 0, .string ⟨#[]⟩, .int .i64 0, .int .i64 0, .slice none 0 0], .int .i64 0, .int .i64 0] w fun e w' => e = .returned (.tuple #[.int .i64 m, .int .i64 r]) ∧ Only [] w w') :
    Calls Try.prog 18 #[.agg #[.int .i64 3, .int .i64 n, .complex .f64 0 0, .string ⟨#[]⟩, .int .i64 0, .int .i64 0, .slice none 0 0]] w fun e w' => e = .returned (.int .i64 r) ∧ Only [] w w' := by
  have H := Lib.hid hw
  clear hw
  go_enter Try.func18, Try.ntmps18
  go_wp2_with fail
  (with_reducible refine (H.out _).mono ?_)
  rintro e w1 ⟨rfl, o1⟩
  have O1 := Lib.hid (((Only.refl [] w).alloc (.cells #[.int .i64 3, .int .i64 n, .complex .f64 0 0, .string ⟨#[]⟩, .int .i64 0, .int .i64 0, .slice none 0 0] 27)).trans o1 (by simp))
  clear o1
  go_wp2_with fail
  go_ret
  exact ⟨rfl, O1.out⟩
theorem rcheck_yes (n : Int) (w : World) (h : OkInt n) : Calls Try.prog 18 #[.agg #[.int .i64 3, .int .i64 n, .complex .f64 0 0, .string ⟨#[]⟩, .int .i64 0, .int .i64 0, .slice none 0 0]] w fun e w' => e = .returned (.int .i64 0) ∧ Only [] w w' := rcheck_of n 1 0 w fun w => rwalk_yes n w h
theorem rcheck_no (n : Int) (w : World) (h : ¬ OkInt n) : Calls Try.prog 18 #[.agg #[.int .i64 3, .int .i64 n, .complex .f64 0 0, .string ⟨#[]⟩, .int .i64 0, .int .i64 0, .slice none 0 0]] w fun e w' => e = .returned (.int .i64 30) ∧ Only [] w w' := rcheck_of n 0 30 w fun w => rwalk_no n w h
theorem ris_binary (w : World) : Calls Try.prog 17 #[.int .i64 9] w fun e w' => e = .returned (.bool true) ∧ w = w' := by
  go_enter Try.func17, Try.ntmps17
  go_wp2_with fail
  go_ret
  exact ⟨rfl, rfl⟩
theorem rints_zero (a b : Int) (w : World) (hb : b = 0) : Calls Try.prog 25 #[.int .i64 9, .int .i64 a, .int .i64 b] w fun e w' => e = .returned (.tuple #[.agg #[.int .i64 0, .int .i64 0, .complex .f64 0 0, .string ⟨#[]⟩, .int .i64 0, .int .i64 0, .slice none 0 0], .int .i64 33]) ∧ Only [] w w' := by
  subst hb
  go_enter Try.func25, Try.ntmps25
  have rs := store_com
  go_wp2_with fail
  refine bodyPost_ret (v := .tuple #[.agg #[.int .i64 0, .int .i64 0, .complex .f64 0 0, .string ⟨#[]⟩, .int .i64 0, .int .i64 0, .slice none 0 0], .int .i64 33]) (by simp [results, Try.results25, go_sem]) rfl ⟨rfl, ?_⟩
  exact (Only.refl _ _).alloc _
end Go.Proofs.Ytnamfnejhdhfjaa
