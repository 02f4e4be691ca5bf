/- Numbers: of ints, of complex numbers. -/
import Derived.Test.YtnamfnejhdhfjaaTC
namespace Go.Proofs.Ytnamfnejhdhfjaa
open Go.RowKit

theorem store_com (w : World) (a : Addr) (m : Mode) (k : FloatKind) (x y : Nat) : (store a (.complex k x y) m).run Try.prog w = stored Try.prog w a (.complex k x y) m := run_store Try.prog w a _ m rfl
theorem Only.set7 {w w1 : World} {b : Nat} {v0 v1 v2 v3 v4 v5 v6 : Value} (h : Only [] w w1) (hb : w.heap.size ≤ b) :
    Only [] w (((((((w1.setCell ⟨b, 0, none⟩ v0).setCell ⟨b, 1, none⟩ v1).setCell ⟨b, 2, none⟩ v2).setCell ⟨b, 3, none⟩ v3).setCell ⟨b, 4, none⟩ v4).setCell ⟨b, 5, none⟩ v5).setCell ⟨b, 6, none⟩ v6) :=
  ((((((h.set (.inr hb) _).set (.inr hb) _).set (.inr hb) _).set (.inr hb) _).set (.inr hb) _).set (.inr hb) _).set (.inr hb) _
theorem is_number (k n : Int) (x y : Nat) (w : World) (h : k = 4) : Calls Try.prog 30 #[.agg #[.int .i64 k, .int .i64 n, .complex .f64 x y, .string ⟨#[]⟩, .int .i64 0, .int .i64 0, .slice none 0 0]] w fun e w' => e = .returned (.bool true) ∧ Only [] w w' := by
  subst h
  go_enter Try.func30, Try.ntmps30
  go_wp2_with fail
  go_ret
  exact ⟨rfl, (Only.refl _ _).alloc _⟩
theorem as_complex (n : Int) (x y : Nat) (w : World) : Calls Try.prog 32 #[.agg #[.int .i64 4, .int .i64 n, .complex .f64 x y, .string ⟨#[]⟩, .int .i64 0, .int .i64 0, .slice none 0 0]] w fun e w' => e = .returned (.tuple #[.complex .f64 x y, .int .i64 0]) ∧ Only [] w w' := by
  go_enter Try.func32, Try.ntmps32
  go_wp2_with fail
  go_ret2
  exact ⟨rfl, (Only.refl _ _).alloc _⟩
theorem int_of (n : Int) (w : World) (h : OkInt n) : Calls Try.prog 34 #[.int .i64 n] w fun e w' => e = .returned (.tuple #[.agg #[.int .i64 3, .int .i64 n, .complex .f64 0 0, .string ⟨#[]⟩, .int .i64 0, .int .i64 0, .slice none 0 0], .int .i64 0]) ∧ Only [] w w' := by
  have H := Lib.hid h
  clear h
  have rs := store_com
  go_enter Try.func34, Try.ntmps34
  go_wp2_with fail
  (with_reducible refine (is_int_yes _ _ H.out).mono ?_)
  rintro e w' ⟨rfl, rfl⟩
  go_wp2_with fail
  refine bodyPost_ret (v := .tuple #[.agg #[.int .i64 3, .int .i64 n, .complex .f64 0 0, .string ⟨#[]⟩, .int .i64 0, .int .i64 0, .slice none 0 0], .int .i64 0]) (by simp [results, Try.results34, go_sem]) rfl ⟨rfl, ?_⟩
  exact ((Only.refl _ _).alloc _)
/-- Complex: the floats of two ints within the bounds. -/
theorem complex_of (a b : Int) (x y : Nat) (w : World) (ha : floatOfInt .f64 a = x) (hb : floatOfInt .f64 b = y) (h1 : -1073741824 ≤ a) (h2 : a ≤ 1073741824) (h3 : -1073741824 ≤ b) (h4 : b ≤ 1073741824) :
    Calls Try.prog 27 #[.int .i64 a, .int .i64 b] w fun e w' => e = .returned (.tuple #[.agg #[.int .i64 4, .int .i64 0, .complex .f64 x y, .string ⟨#[]⟩, .int .i64 0, .int .i64 0, .slice none 0 0], .int .i64 0]) ∧ Only [] w w' := by
  have rs := store_com
  go_enter Try.func27, Try.ntmps27
  go_wp2_with fail
  (with_reducible refine (is_bounded _ _ h1 h2).mono ?_)
  rintro e w' ⟨rfl, rfl⟩
  go_wp2_with fail
  (with_reducible refine (is_bounded _ _ h3 h4).mono ?_)
  rintro e w' ⟨rfl, rfl⟩
  go_wp2_with fail
  refine bodyPost_ret (v := .tuple #[.agg #[.int .i64 4, .int .i64 0, .complex .f64 x y, .string ⟨#[]⟩, .int .i64 0, .int .i64 0, .slice none 0 0], .int .i64 0]) (by simp [results, Try.results27, go_sem]) rfl ⟨rfl, ?_⟩
  exact ((Only.refl _ _).alloc _)
theorem parts_of (x y : Nat) (a b : Int) (w : World) (ha : floatToIntVal .f64 x .i64 = some a) (hb : floatToIntVal .f64 y .i64 = some b) :
    Calls Try.prog 54 #[.complex .f64 x y] w fun e w' => e = .returned (.tuple #[.int .i64 a, .int .i64 b]) ∧ w = w' := by
  have h1 := fun w => run_convert_float_int (P := Try.prog) w 55 3 .f64 .i64 x a (by kernel_rfl) Try.underlying3 ha
  have h2 := fun w => run_convert_float_int (P := Try.prog) w 55 3 .f64 .i64 y b (by kernel_rfl) Try.underlying3 hb
  clear ha hb
  go_enter Try.func54, Try.ntmps54
  go_wp2_with fail
  go_ret2
  exact ⟨rfl, rfl⟩
theorem complex_num (x y : Nat) (a b : Int) (w : World) (ha : floatToIntVal .f64 x .i64 = some a) (hb : floatToIntVal .f64 y .i64 = some b) (ka : floatOfInt .f64 a = x) (kb : floatOfInt .f64 b = y)
    (h1 : -1073741824 ≤ a) (h2 : a ≤ 1073741824) (h3 : -1073741824 ≤ b) (h4 : b ≤ 1073741824) :
    Calls Try.prog 35 #[.complex .f64 x y] w fun e w' => e = .returned (.tuple #[.agg #[.int .i64 4, .int .i64 0, .complex .f64 x y, .string ⟨#[]⟩, .int .i64 0, .int .i64 0, .slice none 0 0], .int .i64 0]) ∧ Only [] w w' := by
  have HA := Lib.hid ha
  have HB := Lib.hid hb
  have KA := Lib.hid ka
  have KB := Lib.hid kb
  clear ha hb ka kb
  have HZ := Lib.hid (Bk.made w 27 #[.int .i64 0, .int .i64 0, .complex .f64 0 0, .string ⟨#[]⟩, .int .i64 0, .int .i64 0, .slice none 0 0])
  have rs := store_com
  go_enter Try.func35, Try.ntmps35
  go_wp2_with fail
  (with_reducible refine (parts_of _ _ _ _ _ HA.out HB.out).mono ?_)
  rintro e w1 ⟨rfl, rfl⟩
  go_wp2_with fail
  (with_reducible refine (complex_of _ _ _ _ _ KA.out KB.out h1 h2 h3 h4).mono ?_)
  rintro e w1 ⟨rfl, o1⟩
  have O1 := Lib.hid (((Only.refl [] w).alloc (.cells #[.int .i64 0, .int .i64 0, .complex .f64 0 0, .string ⟨#[]⟩, .int .i64 0, .int .i64 0, .slice none 0 0] 27)).trans o1 (by simp))
  have HZ1 := Lib.hid (HZ.out.only o1 (by simp))
  obtain ⟨z0, z1, z2, z3, z4, z5, z6⟩ := HZ1.out.seven
  have zf := HZ1.out.free
  clear o1
  go_wp2_with fail
  refine bodyPost_ret (v := .tuple #[.agg #[.int .i64 4, .int .i64 0, .complex .f64 x y, .string ⟨#[]⟩, .int .i64 0, .int .i64 0, .slice none 0 0], .int .i64 0]) (by simp [results, Try.results35, go_sem, z0, z1, z2, z3, z4, z5, z6]) rfl ⟨rfl, ?_⟩
  exact O1.out.set7 (by omega)
end Go.Proofs.Ytnamfnejhdhfjaa
