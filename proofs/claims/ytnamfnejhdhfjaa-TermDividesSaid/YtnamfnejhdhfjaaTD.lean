/- divide, reckon: of ints a quotient and a rest, of complex numbers a product. -/
import Derived.Test.YtnamfnejhdhfjaaTN
namespace Go.Proofs.Ytnamfnejhdhfjaa
open Go.RowKit

theorem okInt_quo {a b : Int} (ha : OkInt a) : OkInt (a.tdiv b) := by
  obtain ⟨h1, h2⟩ := ha
  have h := Int.natAbs_tdiv_le_natAbs a b
  constructor <;> omega
theorem okInt_rem {a b : Int} (ha : OkInt a) : OkInt (a.tmod b) := by
  obtain ⟨h1, h2⟩ := ha
  have h : (a.tmod b).natAbs ≤ a.natAbs := by
    rw [Int.natAbs_tmod]
    exact Nat.mod_le _ _
  constructor <;> omega

theorem divide_zero (op a b : Int) (w : World) (hb : b = 0) : Calls Try.prog 11 #[.int .i64 op, .agg #[.int .i64 3, .int .i64 a, .complex .f64 0 0, .string ⟨#[]⟩, .int .i64 0, .int .i64 0, .slice none 0 0], .agg #[.int .i64 3, .int .i64 b, .complex .f64 0 0, .string ⟨#[]⟩, .int .i64 0, .int .i64 0, .slice none 0 0]] w fun e w' => e = .returned (.tuple #[.agg #[.int .i64 0, .int .i64 0, .complex .f64 0 0, .string ⟨#[]⟩, .int .i64 0, .int .i64 0, .slice none 0 0], .int .i64 33]) ∧ Only [] w w' := by
  subst hb
  go_enter Try.func11, Try.ntmps11
  have rs := store_com
  go_wp2_with fail
  refine bodyPost_ret (v := .tuple #[.agg #[.int .i64 0, .int .i64 0, .complex .f64 0 0, .string ⟨#[]⟩, .int .i64 0, .int .i64 0, .slice none 0 0], .int .i64 33]) (by simp [results, Try.results11, go_sem]) rfl ⟨rfl, ?_⟩
  exact (((Only.refl _ _).alloc _).alloc _).alloc _
set_option maxHeartbeats 1000000 in
theorem divide_quo (a b : Int) (w : World) (ha : OkInt a) (h0 : b ≠ 0) : Calls Try.prog 11 #[.int .i64 9, .agg #[.int .i64 3, .int .i64 a, .complex .f64 0 0, .string ⟨#[]⟩, .int .i64 0, .int .i64 0, .slice none 0 0], .agg #[.int .i64 3, .int .i64 b, .complex .f64 0 0, .string ⟨#[]⟩, .int .i64 0, .int .i64 0, .slice none 0 0]] w fun e w' => e = .returned (.tuple #[.agg #[.int .i64 3, .int .i64 (a.tdiv b), .complex .f64 0 0, .string ⟨#[]⟩, .int .i64 0, .int .i64 0, .slice none 0 0], .int .i64 0]) ∧ Only [] w w' := by
  have hq := okInt_quo (b := b) ha
  have HQ := Lib.hid hq
  have e0 : (b == 0) = false := by simpa using h0
  have hw : wrap64 (a.tdiv b) = a.tdiv b := wrap64_in (by have := hq.1; omega) (by have := hq.2; omega)
  have HZ := Lib.hid (Bk.madeAt (w := (w.alloc (.cells #[.int .i64 3, .int .i64 a, .complex .f64 0 0, .string ⟨#[]⟩, .int .i64 0, .int .i64 0, .slice none 0 0] 27)).alloc (.cells #[.int .i64 3, .int .i64 b, .complex .f64 0 0, .string ⟨#[]⟩, .int .i64 0, .int .i64 0, .slice none 0 0] 27)) (t := 27) (cs := #[.int .i64 0, .int .i64 0, .complex .f64 0 0, .string ⟨#[]⟩, .int .i64 0, .int .i64 0, .slice none 0 0]) (b := w.heap.size + 2) (by simp))
  have OZ := Lib.hid ((((Only.refl [] w).alloc (.cells #[.int .i64 3, .int .i64 a, .complex .f64 0 0, .string ⟨#[]⟩, .int .i64 0, .int .i64 0, .slice none 0 0] 27)).alloc (.cells #[.int .i64 3, .int .i64 b, .complex .f64 0 0, .string ⟨#[]⟩, .int .i64 0, .int .i64 0, .slice none 0 0] 27)).alloc (.cells #[.int .i64 0, .int .i64 0, .complex .f64 0 0, .string ⟨#[]⟩, .int .i64 0, .int .i64 0, .slice none 0 0] 27))
  clear hq ha
  go_enter Try.func11, Try.ntmps11
  have rs := store_com
  go_wp2_with fail
  (with_reducible refine (int_of _ _ HQ.out).mono ?_)
  rintro e w1 ⟨rfl, o1⟩
  have O1 := Lib.hid (OZ.out.trans o1 (by simp))
  obtain ⟨z0, z1, z2, z3, z4, z5, z6⟩ := (HZ.out.only o1 (by simp)).seven
  have zf := (HZ.out.only o1 (by simp)).free
  clear o1
  go_wp2_with fail
  refine bodyPost_ret (v := .tuple #[.agg #[.int .i64 3, .int .i64 (a.tdiv b), .complex .f64 0 0, .string ⟨#[]⟩, .int .i64 0, .int .i64 0, .slice none 0 0], .int .i64 0]) (by simp [results, Try.results11, go_sem, z0, z1, z2, z3, z4, z5, z6]) rfl ⟨rfl, ?_⟩
  exact O1.out.set7 (by omega)
set_option maxHeartbeats 1000000 in
theorem divide_rem (a b : Int) (w : World) (ha : OkInt a) (h0 : b ≠ 0) : Calls Try.prog 11 #[.int .i64 10, .agg #[.int .i64 3, .int .i64 a, .complex .f64 0 0, .string ⟨#[]⟩, .int .i64 0, .int .i64 0, .slice none 0 0], .agg #[.int .i64 3, .int .i64 b, .complex .f64 0 0, .string ⟨#[]⟩, .int .i64 0, .int .i64 0, .slice none 0 0]] w fun e w' => e = .returned (.tuple #[.agg #[.int .i64 3, .int .i64 (a.tmod b), .complex .f64 0 0, .string ⟨#[]⟩, .int .i64 0, .int .i64 0, .slice none 0 0], .int .i64 0]) ∧ Only [] w w' := by
  have hq := okInt_rem (b := b) ha
  have HQ := Lib.hid hq
  have e0 : (b == 0) = false := by simpa using h0
  have hw : wrap64 (a.tmod b) = a.tmod b := wrap64_in (by have := hq.1; omega) (by have := hq.2; omega)
  have HZ := Lib.hid (Bk.madeAt (w := (w.alloc (.cells #[.int .i64 3, .int .i64 a, .complex .f64 0 0, .string ⟨#[]⟩, .int .i64 0, .int .i64 0, .slice none 0 0] 27)).alloc (.cells #[.int .i64 3, .int .i64 b, .complex .f64 0 0, .string ⟨#[]⟩, .int .i64 0, .int .i64 0, .slice none 0 0] 27)) (t := 27) (cs := #[.int .i64 0, .int .i64 0, .complex .f64 0 0, .string ⟨#[]⟩, .int .i64 0, .int .i64 0, .slice none 0 0]) (b := w.heap.size + 2) (by simp))
  have OZ := Lib.hid ((((Only.refl [] w).alloc (.cells #[.int .i64 3, .int .i64 a, .complex .f64 0 0, .string ⟨#[]⟩, .int .i64 0, .int .i64 0, .slice none 0 0] 27)).alloc (.cells #[.int .i64 3, .int .i64 b, .complex .f64 0 0, .string ⟨#[]⟩, .int .i64 0, .int .i64 0, .slice none 0 0] 27)).alloc (.cells #[.int .i64 0, .int .i64 0, .complex .f64 0 0, .string ⟨#[]⟩, .int .i64 0, .int .i64 0, .slice none 0 0] 27))
  clear hq ha
  go_enter Try.func11, Try.ntmps11
  have rs := store_com
  go_wp2_with fail
  (with_reducible refine (int_of _ _ HQ.out).mono ?_)
  rintro e w1 ⟨rfl, o1⟩
  have O1 := Lib.hid (OZ.out.trans o1 (by simp))
  obtain ⟨z0, z1, z2, z3, z4, z5, z6⟩ := (HZ.out.only o1 (by simp)).seven
  have zf := (HZ.out.only o1 (by simp)).free
  clear o1
  go_wp2_with fail
  refine bodyPost_ret (v := .tuple #[.agg #[.int .i64 3, .int .i64 (a.tmod b), .complex .f64 0 0, .string ⟨#[]⟩, .int .i64 0, .int .i64 0, .slice none 0 0], .int .i64 0]) (by simp [results, Try.results11, go_sem, z0, z1, z2, z3, z4, z5, z6]) rfl ⟨rfl, ?_⟩
  exact O1.out.set7 (by omega)
/-- isBinary, of the operations that are asked here. -/
theorem is_binary (op : Int) (w : World) (h : op = 8 ∨ op = 9 ∨ op = 10) : Calls Try.prog 8 #[.int .i64 op] w fun e w' => e = .returned (.bool true) ∧ w = w' := by
  rcases h with rfl | rfl | rfl
  all_goals
    go_enter Try.func8, Try.ntmps8
    go_wp2_with fail
    go_ret
    exact ⟨rfl, rfl⟩
end Go.Proofs.Ytnamfnejhdhfjaa
