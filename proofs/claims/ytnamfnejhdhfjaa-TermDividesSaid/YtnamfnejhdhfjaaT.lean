/- Terms that are numbers, by value: which may be. -/
import Derived.Test.YtnamfnejhdhfjaaGShell
import Derived.Laws.ComplexArith
import Derived.Laws.FloatArith
namespace Go.Proofs.Ytnamfnejhdhfjaa
open Go.RowKit

/-- An int that may be. -/
def OkInt (n : Int) : Prop := -4611686018427387903 ≤ n ∧ n ≤ 4611686018427387903
theorem okInt_cases (n : Int) : OkInt n ∨ ¬ OkInt n := Classical.em _

theorem is_int_yes (n : Int) (w : World) (h : OkInt n) : Calls Try.prog 53 #[.int .i64 n] w fun e w' => e = .returned (.bool true) ∧ w = w' := by
  obtain ⟨h1, h2⟩ := h
  go_enter Try.func53, Try.ntmps53
  go_wp2
  go_ret
  exact ⟨rfl, rfl⟩
theorem is_int_no (n : Int) (w : World) (h : ¬ OkInt n) : Calls Try.prog 53 #[.int .i64 n] w fun e w' => e = .returned (.bool false) ∧ w = w' := by
  by_cases h1 : -4611686018427387903 ≤ n
  · have h2 : decide (n ≤ 4611686018427387903) = false := by
      simp only [OkInt] at h
      exact decide_eq_false (by omega)
    clear h
    go_enter Try.func53, Try.ntmps53
    go_wp2
    go_ret
    exact ⟨rfl, rfl⟩
  · have h1' : decide (-4611686018427387903 ≤ n) = false := by simpa using h1
    clear h
    go_enter Try.func53, Try.ntmps53
    go_wp2
    go_ret
    exact ⟨rfl, rfl⟩
theorem is_bounded (n : Int) (w : World) (h1 : -1073741824 ≤ n) (h2 : n ≤ 1073741824) : Calls Try.prog 50 #[.int .i64 n] w fun e w' => e = .returned (.bool true) ∧ w = w' := by
  go_enter Try.func50, Try.ntmps50
  go_wp2
  go_ret
  exact ⟨rfl, rfl⟩

/-- A term's cells: kind, number, parts of a complex number; all else zero. -/
def tc (k n : Int) (re im : Nat) : Array Value := #[.int .i64 k, .int .i64 n, .complex .f64 re im, .string ⟨#[]⟩, .int .i64 0, .int .i64 0, .slice none 0 0]

theorem eqPid (w : World) : (Op.equalIn 10000 24 (.agg #[.int .i64 0, .int .i64 0]) (.agg #[.int .i64 0, .int .i64 0])).run Try.prog w = .ok true w := by
  kernel_rfl
theorem z64 : FloatKind.f64.format.order 0 0 = some .eq := by decide

set_option maxHeartbeats 1000000 in
theorem may_int_yes (n : Int) (w : World) (h : OkInt n) : Calls Try.prog 61 #[.agg (tc 3 n 0 0)] w fun e w' => e = .returned (.bool true) ∧ Only [] w w' := by
  have z0 := z64
  have e0 := eqPid
  have H := Lib.hid h
  clear h
  unfold tc
  go_enter Try.func61, Try.ntmps61
  go_wp2_with fail
  go_quiet (fail)
  go_wp2_with fail
  (with_reducible refine (is_int_yes _ _ H.out).mono ?_)
  rintro e w' ⟨rfl, rfl⟩
  go_wp2_with fail
  go_ret
  exact ⟨rfl, ((Only.refl _ _).alloc _).drewN _⟩
set_option maxHeartbeats 1000000 in
theorem may_int_no (n : Int) (w : World) (h : ¬ OkInt n) : Calls Try.prog 61 #[.agg (tc 3 n 0 0)] w fun e w' => e = .returned (.bool false) ∧ Only [] w w' := by
  have z0 := z64
  have e0 := eqPid
  have H := Lib.hid h
  clear h
  unfold tc
  go_enter Try.func61, Try.ntmps61
  go_wp2_with fail
  go_quiet (fail)
  go_wp2_with fail
  (with_reducible refine (is_int_no _ _ H.out).mono ?_)
  rintro e w' ⟨rfl, rfl⟩
  go_wp2_with fail
  go_ret
  exact ⟨rfl, ((Only.refl _ _).alloc _).drewN _⟩

/-- A float that is a whole number beside nought, within its bounds. -/
structure OkF (x : Nat) : Prop where
  lo : FloatKind.f64.format.order x 13965662444475908096 = some .gt
  hi : FloatKind.f64.format.order x 4742290407621132288 = some .lt
  no : FloatKind.f64.format.order x 0 = some .gt
  me : FloatKind.f64.format.order x x = some .eq
  whole : ∀ w, (Extern.MathFloor.toIntegral "math.archTrunc" .zero #[.float .f64 x]).run Try.prog w = .ok (.float .f64 x) w
theorem call_trunc (x : Nat) (w : World) (h : ∀ w, (Extern.MathFloor.toIntegral "math.archTrunc" .zero #[.float .f64 x]).run Try.prog w = .ok (.float .f64 x) w) :
    (callFunc 73 #[.float .f64 x]).run Try.prog w = .ok (.value (.float .f64 x)) w := by
  rw [run_callFunc_extern (e := Extern.MathFloor.toIntegral "math.archTrunc" .zero) Try.func73 (by kernel_rfl) (by kernel_rfl) (by kernel_rfl) (by kernel_rfl), h]
  rfl
theorem trunc_any (x : Nat) (w : World) (h : ∀ w, (Extern.MathFloor.toIntegral "math.archTrunc" .zero #[.float .f64 x]).run Try.prog w = .ok (.float .f64 x) w) : Calls Try.prog 70 #[.float .f64 x] w fun e w' => e = .returned (.float .f64 x) ∧ w = w' := by
  have hc := fun w => call_trunc x w h
  clear h
  go_enter Try.func70, Try.ntmps70
  go_wp2_with fail
  go_ret
  exact ⟨rfl, rfl⟩
theorem is_part (x : Nat) (w : World) (h : OkF x) : Calls Try.prog 66 #[.float .f64 x] w fun e w' => e = .returned (.bool true) ∧ w = w' := by
  obtain ⟨h1, h2, h3, h4, h5⟩ := h
  have H := Lib.hid h5
  clear h5
  go_enter Try.func66, Try.ntmps66
  go_wp2_with fail
  (with_reducible refine (trunc_any _ _ H.out).mono ?_)
  rintro e w' ⟨rfl, rfl⟩
  go_wp2_with fail
  go_ret
  exact ⟨rfl, rfl⟩
theorem okF1 : OkF 4607182418800017408 := ⟨by decide, by decide, by decide, by decide, fun w => by kernel_rfl⟩
theorem okF2 : OkF 4611686018427387904 := ⟨by decide, by decide, by decide, by decide, fun w => by kernel_rfl⟩
theorem okF3 : OkF 4613937818241073152 := ⟨by decide, by decide, by decide, by decide, fun w => by kernel_rfl⟩
theorem okF4 : OkF 4616189618054758400 := ⟨by decide, by decide, by decide, by decide, fun w => by kernel_rfl⟩
set_option maxHeartbeats 1000000 in
theorem may_com (x y : Nat) (w : World) (hx : OkF x) (hy : OkF y) : Calls Try.prog 61 #[.agg (tc 4 0 x y)] w fun e w' => e = .returned (.bool true) ∧ Only [] w w' := by
  have e0 := eqPid
  have h0 := hx.no
  have HX := Lib.hid hx
  have HY := Lib.hid hy
  clear hx hy
  unfold tc
  go_enter Try.func61, Try.ntmps61
  go_wp2_with fail
  go_quiet (fail)
  go_wp2_with fail
  (with_reducible refine (is_part _ _ HX.out).mono ?_)
  rintro e w' ⟨rfl, rfl⟩
  go_wp2_with fail
  (with_reducible refine (is_part _ _ HY.out).mono ?_)
  rintro e w' ⟨rfl, rfl⟩
  go_wp2_with fail
  go_ret
  exact ⟨rfl, ((Only.refl _ _).alloc _).drewN _⟩
end Go.Proofs.Ytnamfnejhdhfjaa
