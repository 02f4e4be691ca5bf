/- Binary of two ints: a quotient, a rest; of two complex numbers: a product. -/
import Derived.Test.YtnamfnejhdhfjaaTD
namespace Go.Proofs.Ytnamfnejhdhfjaa
open Go.RowKit

theorem reckon_com (p q r s x y : Nat) (a b : Int) (w : World) (hm : cMulBits p q r s = some (x, y)) (ha : floatToIntVal .f64 x .i64 = some a) (hb : floatToIntVal .f64 y .i64 = some b) (ka : floatOfInt .f64 a = x) (kb : floatOfInt .f64 b = y)
    (h1 : -1073741824 ≤ a) (h2 : a ≤ 1073741824) (h3 : -1073741824 ≤ b) (h4 : b ≤ 1073741824) :
    Calls Try.prog 33 #[.int .i64 8, .complex .f64 p q, .complex .f64 r s] w fun e w' => e = .returned (.tuple #[.agg #[.int .i64 4, .int .i64 0, .complex .f64 x y, .string ⟨#[]⟩, .int .i64 0, .int .i64 0, .slice none 0 0], .int .i64 0]) ∧ Only [] w w' := by
  have HC := Lib.hid (fun w => complex_num x y a b w ha hb ka kb h1 h2 h3 h4)
  have hp := fun w => run_complex_mul (P := Try.prog) w 22 p q r s x y hm
  have HZ := Lib.hid (Bk.made w 27 #[.int .i64 0, .int .i64 0, .complex .f64 0 0, .string ⟨#[]⟩, .int .i64 0, .int .i64 0, .slice none 0 0])
  clear ha hb ka kb h1 h2 h3 h4 hm
  go_enter Try.func33, Try.ntmps33
  have rs := store_com
  go_wp2_with fail
  (with_reducible refine (HC.out _).mono ?_)
  rintro e w1 ⟨rfl, o1⟩
  have O1 := Lib.hid (((Only.refl [] w).alloc (.cells #[.int .i64 0, .int .i64 0, .complex .f64 0 0, .string ⟨#[]⟩, .int .i64 0, .int .i64 0, .slice none 0 0] 27)).trans o1 (by simp))
  obtain ⟨z0, z1, z2, z3, z4, z5, z6⟩ := (HZ.out.only o1 (by simp)).seven
  have zf := (HZ.out.only o1 (by simp)).free
  clear o1
  go_wp2_with fail
  refine bodyPost_ret (v := .tuple #[.agg #[.int .i64 4, .int .i64 0, .complex .f64 x y, .string ⟨#[]⟩, .int .i64 0, .int .i64 0, .slice none 0 0], .int .i64 0]) (by simp [results, Try.results33, go_sem, z0, z1, z2, z3, z4, z5, z6]) rfl ⟨rfl, ?_⟩
  exact O1.out.set7 (by omega)

set_option maxHeartbeats 2000000 in
theorem reckon_mul (p q r s x y : Nat) (w : World)
    (hR : ∀ w, Calls Try.prog 33 #[.int .i64 8, .complex .f64 p q, .complex .f64 r s] w fun e w' => e = .returned (.tuple #[.agg #[.int .i64 4, .int .i64 0, .complex .f64 x y, .string ⟨#[]⟩, .int .i64 0, .int .i64 0, .slice none 0 0], .int .i64 0]) ∧ Only [] w w') :
    Calls Try.prog 10 #[.int .i64 8, .agg #[.int .i64 4, .int .i64 0, .complex .f64 p q, .string ⟨#[]⟩, .int .i64 0, .int .i64 0, .slice none 0 0], .agg #[.int .i64 4, .int .i64 0, .complex .f64 r s, .string ⟨#[]⟩, .int .i64 0, .int .i64 0, .slice none 0 0]] w fun e w' => e = .returned (.tuple #[.agg #[.int .i64 4, .int .i64 0, .complex .f64 x y, .string ⟨#[]⟩, .int .i64 0, .int .i64 0, .slice none 0 0], .int .i64 0]) ∧ Only [] w w' := by
  have HR := Lib.hid hR
  clear hR
  have B0 := Lib.hid (((Bk.made w 27 #[.int .i64 4, .int .i64 0, .complex .f64 p q, .string ⟨#[]⟩, .int .i64 0, .int .i64 0, .slice none 0 0]).alloc (.cells #[.int .i64 4, .int .i64 0, .complex .f64 r s, .string ⟨#[]⟩, .int .i64 0, .int .i64 0, .slice none 0 0] 27)).alloc (.cells #[.int .i64 0, .int .i64 0, .complex .f64 0 0, .string ⟨#[]⟩, .int .i64 0, .int .i64 0, .slice none 0 0] 27))
  have B1 := Lib.hid ((Bk.madeAt (w := w.alloc (.cells #[.int .i64 4, .int .i64 0, .complex .f64 p q, .string ⟨#[]⟩, .int .i64 0, .int .i64 0, .slice none 0 0] 27)) (t := 27) (cs := #[.int .i64 4, .int .i64 0, .complex .f64 r s, .string ⟨#[]⟩, .int .i64 0, .int .i64 0, .slice none 0 0]) (b := w.heap.size + 1) (by simp)).alloc (.cells #[.int .i64 0, .int .i64 0, .complex .f64 0 0, .string ⟨#[]⟩, .int .i64 0, .int .i64 0, .slice none 0 0] 27))
  have B2 := Lib.hid (Bk.madeAt (w := (w.alloc (.cells #[.int .i64 4, .int .i64 0, .complex .f64 p q, .string ⟨#[]⟩, .int .i64 0, .int .i64 0, .slice none 0 0] 27)).alloc (.cells #[.int .i64 4, .int .i64 0, .complex .f64 r s, .string ⟨#[]⟩, .int .i64 0, .int .i64 0, .slice none 0 0] 27)) (t := 27) (cs := #[.int .i64 0, .int .i64 0, .complex .f64 0 0, .string ⟨#[]⟩, .int .i64 0, .int .i64 0, .slice none 0 0]) (b := w.heap.size + 2) (by simp))
  have O0 := Lib.hid ((((Only.refl [] w).alloc (.cells #[.int .i64 4, .int .i64 0, .complex .f64 p q, .string ⟨#[]⟩, .int .i64 0, .int .i64 0, .slice none 0 0] 27)).alloc (.cells #[.int .i64 4, .int .i64 0, .complex .f64 r s, .string ⟨#[]⟩, .int .i64 0, .int .i64 0, .slice none 0 0] 27)).alloc (.cells #[.int .i64 0, .int .i64 0, .complex .f64 0 0, .string ⟨#[]⟩, .int .i64 0, .int .i64 0, .slice none 0 0] 27))
  go_enter Try.func10, Try.ntmps10
  have rs := store_com
  go_wp2_with fail
  (with_reducible refine (is_number _ _ _ _ _ rfl).mono ?_)
  rintro e w1 ⟨rfl, o1⟩
  have O1 := Lib.hid (O0.out.trans o1 (by simp))
  have C0 := Lib.hid (B0.out.only o1 (by simp))
  have C1 := Lib.hid (B1.out.only o1 (by simp))
  have C2 := Lib.hid (B2.out.only o1 (by simp))
  obtain ⟨a0, a1, a2, a3, a4, a5, a6⟩ := C0.out.seven
  obtain ⟨b0, b1, b2, b3, b4, b5, b6⟩ := C1.out.seven
  clear o1 O0 B0 B1 B2
  go_wp2_with fail
  (with_reducible refine (is_number _ _ _ _ _ rfl).mono ?_)
  rintro e w2 ⟨rfl, o1⟩
  have O2 := Lib.hid (O1.out.trans o1 (by simp))
  have D0 := Lib.hid (C0.out.only o1 (by simp))
  have D1 := Lib.hid (C1.out.only o1 (by simp))
  have D2 := Lib.hid (C2.out.only o1 (by simp))
  clear o1 O1 C0 C1 C2 a0 a1 a2 a3 a4 a5 a6 b0 b1 b2 b3 b4 b5 b6
  obtain ⟨a0, a1, a2, a3, a4, a5, a6⟩ := D0.out.seven
  go_wp2_with fail
  (with_reducible refine (as_complex _ _ _ _).mono ?_)
  rintro e w3 ⟨rfl, o1⟩
  have O3 := Lib.hid (O2.out.trans o1 (by simp))
  have E1 := Lib.hid (D1.out.only o1 (by simp))
  have E2 := Lib.hid (D2.out.only o1 (by simp))
  clear o1 O2 D0 D1 D2 a0 a1 a2 a3 a4 a5 a6
  obtain ⟨b0, b1, b2, b3, b4, b5, b6⟩ := E1.out.seven
  go_wp2_with fail
  (with_reducible refine (as_complex _ _ _ _).mono ?_)
  rintro e w4 ⟨rfl, o1⟩
  have O4 := Lib.hid (O3.out.trans o1 (by simp))
  have F2 := Lib.hid (E2.out.only o1 (by simp))
  clear o1 O3 E1 E2 b0 b1 b2 b3 b4 b5 b6
  go_wp2_with fail
  (with_reducible refine (HR.out _).mono ?_)
  rintro e w5 ⟨rfl, o1⟩
  have O5 := Lib.hid (O4.out.trans o1 (by simp))
  obtain ⟨z0, z1, z2, z3, z4, z5, z6⟩ := (F2.out.only o1 (by simp)).seven
  have zf := (F2.out.only o1 (by simp)).free
  clear o1 O4 F2
  go_wp2_with fail
  refine bodyPost_ret (v := .tuple #[.agg #[.int .i64 4, .int .i64 0, .complex .f64 x y, .string ⟨#[]⟩, .int .i64 0, .int .i64 0, .slice none 0 0], .int .i64 0]) (by simp [results, Try.results10, go_sem, z0, z1, z2, z3, z4, z5, z6]) rfl ⟨rfl, ?_⟩
  exact O5.out.set7 (by omega)
end Go.Proofs.Ytnamfnejhdhfjaa
