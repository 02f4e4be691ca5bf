/- awake. -/
import Derived.Test.YtnamfnejhdhfjaaTO
namespace Go.Proofs.Ytnamfnejhdhfjaa
open Go.RowKit

theorem one_two (w : World) : Calls Try.prog 27 #[.int .i64 1, .int .i64 2] w fun e w' => e = .returned (.tuple #[.agg #[.int .i64 4, .int .i64 0, .complex .f64 4607182418800017408 4611686018427387904, .string ⟨#[]⟩, .int .i64 0, .int .i64 0, .slice none 0 0], .int .i64 0]) ∧ Only [] w w' :=
  complex_of 1 2 _ _ w (by decide) (by decide) (by decide) (by decide) (by decide) (by decide)
theorem three_four (w : World) : Calls Try.prog 27 #[.int .i64 3, .int .i64 4] w fun e w' => e = .returned (.tuple #[.agg #[.int .i64 4, .int .i64 0, .complex .f64 4613937818241073152 4616189618054758400, .string ⟨#[]⟩, .int .i64 0, .int .i64 0, .slice none 0 0], .int .i64 0]) ∧ Only [] w w' :=
  complex_of 3 4 _ _ w (by decide) (by decide) (by decide) (by decide) (by decide) (by decide)

set_option maxHeartbeats 2000000 in
theorem awake_any (w : World) : Calls Try.prog 7 #[] w fun e w' => e = .returned (.bool true) ∧ Only [] w w' := by
  have q1 : FloatKind.f64.format.order 13840687554816376832 13840687554816376832 = some .eq := by decide
  have q2 : FloatKind.f64.format.order 4621819117588971520 4621819117588971520 = some .eq := by decide
  go_enter Try.func7, Try.ntmps7
  have rs := store_com
  go_wp2_with fail
  (with_reducible refine (one_two _).mono ?_)
  rintro e w1 ⟨rfl, o1⟩
  have O1 := Lib.hid (o1.alloc (.cells #[.int .i64 4, .int .i64 0, .complex .f64 4607182418800017408 4611686018427387904, .string ⟨#[]⟩, .int .i64 0, .int .i64 0, .slice none 0 0] 27))
  have B1 := Lib.hid (Bk.made w1 27 #[.int .i64 4, .int .i64 0, .complex .f64 4607182418800017408 4611686018427387904, .string ⟨#[]⟩, .int .i64 0, .int .i64 0, .slice none 0 0])
  clear o1
  go_wp2_with fail
  (with_reducible refine (three_four _).mono ?_)
  rintro e w2 ⟨rfl, o1⟩
  have O2 := Lib.hid ((O1.out.trans o1 (by simp)).alloc (.cells #[.int .i64 4, .int .i64 0, .complex .f64 4613937818241073152 4616189618054758400, .string ⟨#[]⟩, .int .i64 0, .int .i64 0, .slice none 0 0] 27))
  have B2 := Lib.hid ((B1.out.only o1 (by simp)).alloc (.cells #[.int .i64 4, .int .i64 0, .complex .f64 4613937818241073152 4616189618054758400, .string ⟨#[]⟩, .int .i64 0, .int .i64 0, .slice none 0 0] 27))
  have C2 := Lib.hid (Bk.made w2 27 #[.int .i64 4, .int .i64 0, .complex .f64 4613937818241073152 4616189618054758400, .string ⟨#[]⟩, .int .i64 0, .int .i64 0, .slice none 0 0])
  obtain ⟨a0, a1, a2, a3, a4, a5, a6⟩ := (B1.out.only o1 (by simp)).seven
  have hsz := (B1.out.only o1 (by simp)).lt
  clear o1 O1 B1
  go_wp2_with fail
  (with_reducible refine (mul_ex _).mono ?_)
  rintro e w3 ⟨rfl, o1⟩
  have O3 := Lib.hid ((O2.out.trans o1 (by simp)).alloc (.cells #[.int .i64 4, .int .i64 0, .complex .f64 13840687554816376832 4621819117588971520, .string ⟨#[]⟩, .int .i64 0, .int .i64 0, .slice none 0 0] 27))
  have B3 := Lib.hid ((B2.out.only o1 (by simp)))
  have C3 := Lib.hid ((C2.out.only o1 (by simp)))
  have D3 := Lib.hid (Bk.made w3 27 #[.int .i64 4, .int .i64 0, .complex .f64 13840687554816376832 4621819117588971520, .string ⟨#[]⟩, .int .i64 0, .int .i64 0, .slice none 0 0])
  clear a0 a1 a2 a3 a4 a5 a6 o1 O2 B2 C2
  obtain ⟨a0, a1, a2, a3, a4, a5, a6⟩ := B3.out.seven
  obtain ⟨b0, b1, b2, b3, b4, b5, b6⟩ := C3.out.seven
  have hs1 := B3.out.lt
  have hs2 := C3.out.lt
  go_wp2_with fail
  (with_reducible refine (cmp_ex _).mono ?_)
  rintro e w4 ⟨rfl, o1⟩
  have O4 := Lib.hid (O3.out.trans o1 (by simp))
  obtain ⟨d0, d1, d2, d3, d4, d5, d6⟩ := (D3.out.only o1 (by simp)).seven
  clear a0 a1 a2 a3 a4 a5 a6 b0 b1 b2 b3 b4 b5 b6 o1 O3 B3 C3 D3 hs1 hs2 hsz
  go_wp2_with fail
  go_ret
  exact ⟨rfl, O4.out⟩
end Go.Proofs.Ytnamfnejhdhfjaa
