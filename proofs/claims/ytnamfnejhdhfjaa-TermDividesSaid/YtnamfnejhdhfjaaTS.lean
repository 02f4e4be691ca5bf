/- The document's Binary, where it refuses. -/
import Derived.Test.YtnamfnejhdhfjaaTR
namespace Go.Proofs.Ytnamfnejhdhfjaa
open Go.RowKit

theorem rint (n : Int) (w : World) : Calls Try.prog 4 #[.int .i64 n] w fun e w' => e = .returned (.agg #[.int .i64 3, .int .i64 n, .complex .f64 0 0, .string ⟨#[]⟩, .int .i64 0, .int .i64 0, .slice none 0 0]) ∧ Only [] w w' := by
  go_enter Try.func4, Try.ntmps4
  have rs := store_com
  go_wp2_with fail
  refine bodyPost_ret (v := .agg #[.int .i64 3, .int .i64 n, .complex .f64 0 0, .string ⟨#[]⟩, .int .i64 0, .int .i64 0, .slice none 0 0]) (by simp [results, Try.results4, go_sem]) rfl ⟨rfl, ?_⟩
  exact (Only.refl _ _).alloc _
set_option maxHeartbeats 2000000 in
theorem rbinary_no (a b : Int) (w : World) (h : ¬ OkInt a) : Calls Try.prog 6 #[.int .i64 9, .agg #[.int .i64 3, .int .i64 a, .complex .f64 0 0, .string ⟨#[]⟩, .int .i64 0, .int .i64 0, .slice none 0 0], .agg #[.int .i64 3, .int .i64 b, .complex .f64 0 0, .string ⟨#[]⟩, .int .i64 0, .int .i64 0, .slice none 0 0]] w fun e w' => e = .returned (.tuple #[.agg #[.int .i64 0, .int .i64 0, .complex .f64 0 0, .string ⟨#[]⟩, .int .i64 0, .int .i64 0, .slice none 0 0], .int .i64 30]) ∧ Only [] w w' := by
  have H := Lib.hid h
  have B2 := Lib.hid (Bk.madeAt (w := (w.alloc (.cells #[.int .i64 3, .int .i64 a, .complex .f64 0 0, .string ⟨#[]⟩, .int .i64 0, .int .i64 0, .slice none 0 0] 27)).alloc (.cells #[.int .i64 3, .int .i64 b, .complex .f64 0 0, .string ⟨#[]⟩, .int .i64 0, .int .i64 0, .slice none 0 0] 27)) (t := 27) (cs := #[.int .i64 0, .int .i64 0, .complex .f64 0 0, .string ⟨#[]⟩, .int .i64 0, .int .i64 0, .slice none 0 0]) (b := w.heap.size + 2) (by simp))
  have O0 := Lib.hid ((((Only.refl [] w).alloc (.cells #[.int .i64 3, .int .i64 a, .complex .f64 0 0, .string ⟨#[]⟩, .int .i64 0, .int .i64 0, .slice none 0 0] 27)).alloc (.cells #[.int .i64 3, .int .i64 b, .complex .f64 0 0, .string ⟨#[]⟩, .int .i64 0, .int .i64 0, .slice none 0 0] 27)).alloc (.cells #[.int .i64 0, .int .i64 0, .complex .f64 0 0, .string ⟨#[]⟩, .int .i64 0, .int .i64 0, .slice none 0 0] 27))
  clear h
  go_enter Try.func6, Try.ntmps6
  have rs := store_com
  go_wp2_with fail
  (with_reducible refine (ris_binary _).mono ?_)
  rintro e w' ⟨rfl, rfl⟩
  go_wp2_with fail
  (with_reducible refine (rcheck_no _ _ H.out).mono ?_)
  rintro e w1 ⟨rfl, o1⟩
  have O1 := Lib.hid (O0.out.trans o1 (by simp))
  obtain ⟨z0, z1, z2, z3, z4, z5, z6⟩ := (B2.out.only o1 (by simp)).seven
  have zf := (B2.out.only o1 (by simp)).free
  clear o1 O0 B2
  go_wp2_with fail
  refine bodyPost_ret (v := .tuple #[.agg #[.int .i64 0, .int .i64 0, .complex .f64 0 0, .string ⟨#[]⟩, .int .i64 0, .int .i64 0, .slice none 0 0], .int .i64 30]) (by simp [results, Try.results6, go_sem, z0, z1, z2, z3, z4, z5, z6]) rfl ⟨rfl, ?_⟩
  exact O1.out.set7 (by omega)
set_option maxHeartbeats 2000000 in
theorem rbinary_no2 (a b : Int) (w : World) (h : OkInt a) (h' : ¬ OkInt b) : Calls Try.prog 6 #[.int .i64 9, .agg #[.int .i64 3, .int .i64 a, .complex .f64 0 0, .string ⟨#[]⟩, .int .i64 0, .int .i64 0, .slice none 0 0], .agg #[.int .i64 3, .int .i64 b, .complex .f64 0 0, .string ⟨#[]⟩, .int .i64 0, .int .i64 0, .slice none 0 0]] w fun e w' => e = .returned (.tuple #[.agg #[.int .i64 0, .int .i64 0, .complex .f64 0 0, .string ⟨#[]⟩, .int .i64 0, .int .i64 0, .slice none 0 0], .int .i64 30]) ∧ Only [] w w' := by
  have H := Lib.hid h
  have H' := Lib.hid h'
  have B1 := Lib.hid ((Bk.madeAt (w := w.alloc (.cells #[.int .i64 3, .int .i64 a, .complex .f64 0 0, .string ⟨#[]⟩, .int .i64 0, .int .i64 0, .slice none 0 0] 27)) (t := 27) (cs := #[.int .i64 3, .int .i64 b, .complex .f64 0 0, .string ⟨#[]⟩, .int .i64 0, .int .i64 0, .slice none 0 0]) (b := w.heap.size + 1) (by simp)).alloc (.cells #[.int .i64 0, .int .i64 0, .complex .f64 0 0, .string ⟨#[]⟩, .int .i64 0, .int .i64 0, .slice none 0 0] 27))
  have B2 := Lib.hid (Bk.madeAt (w := (w.alloc (.cells #[.int .i64 3, .int .i64 a, .complex .f64 0 0, .string ⟨#[]⟩, .int .i64 0, .int .i64 0, .slice none 0 0] 27)).alloc (.cells #[.int .i64 3, .int .i64 b, .complex .f64 0 0, .string ⟨#[]⟩, .int .i64 0, .int .i64 0, .slice none 0 0] 27)) (t := 27) (cs := #[.int .i64 0, .int .i64 0, .complex .f64 0 0, .string ⟨#[]⟩, .int .i64 0, .int .i64 0, .slice none 0 0]) (b := w.heap.size + 2) (by simp))
  have O0 := Lib.hid ((((Only.refl [] w).alloc (.cells #[.int .i64 3, .int .i64 a, .complex .f64 0 0, .string ⟨#[]⟩, .int .i64 0, .int .i64 0, .slice none 0 0] 27)).alloc (.cells #[.int .i64 3, .int .i64 b, .complex .f64 0 0, .string ⟨#[]⟩, .int .i64 0, .int .i64 0, .slice none 0 0] 27)).alloc (.cells #[.int .i64 0, .int .i64 0, .complex .f64 0 0, .string ⟨#[]⟩, .int .i64 0, .int .i64 0, .slice none 0 0] 27))
  clear h h'
  go_enter Try.func6, Try.ntmps6
  have rs := store_com
  go_wp2_with fail
  (with_reducible refine (ris_binary _).mono ?_)
  rintro e w' ⟨rfl, rfl⟩
  go_wp2_with fail
  (with_reducible refine (rcheck_yes _ _ H.out).mono ?_)
  rintro e w1 ⟨rfl, o1⟩
  have O1 := Lib.hid (O0.out.trans o1 (by simp))
  have C2 := Lib.hid (B2.out.only o1 (by simp))
  obtain ⟨b0, b1, b2, b3, b4, b5, b6⟩ := (B1.out.only o1 (by simp)).seven
  clear o1 O0 B1 B2
  go_wp2_with fail
  (with_reducible refine (rcheck_no _ _ H'.out).mono ?_)
  rintro e w2 ⟨rfl, o1⟩
  have O2 := Lib.hid (O1.out.trans o1 (by simp))
  obtain ⟨z0, z1, z2, z3, z4, z5, z6⟩ := (C2.out.only o1 (by simp)).seven
  have zf := (C2.out.only o1 (by simp)).free
  clear o1 O1 C2 b0 b1 b2 b3 b4 b5 b6
  go_wp2_with fail
  refine bodyPost_ret (v := .tuple #[.agg #[.int .i64 0, .int .i64 0, .complex .f64 0 0, .string ⟨#[]⟩, .int .i64 0, .int .i64 0, .slice none 0 0], .int .i64 30]) (by simp [results, Try.results6, go_sem, z0, z1, z2, z3, z4, z5, z6]) rfl ⟨rfl, ?_⟩
  exact O2.out.set7 (by omega)
set_option maxHeartbeats 2000000 in
theorem rbinary_zero (a b : Int) (w : World) (h : OkInt a) (h' : OkInt b) (hb : b = 0) : Calls Try.prog 6 #[.int .i64 9, .agg #[.int .i64 3, .int .i64 a, .complex .f64 0 0, .string ⟨#[]⟩, .int .i64 0, .int .i64 0, .slice none 0 0], .agg #[.int .i64 3, .int .i64 b, .complex .f64 0 0, .string ⟨#[]⟩, .int .i64 0, .int .i64 0, .slice none 0 0]] w fun e w' => e = .returned (.tuple #[.agg #[.int .i64 0, .int .i64 0, .complex .f64 0 0, .string ⟨#[]⟩, .int .i64 0, .int .i64 0, .slice none 0 0], .int .i64 33]) ∧ Only [] w w' := by
  have H := Lib.hid h
  have H' := Lib.hid h'
  have HB := Lib.hid hb
  have B0 := Lib.hid (((Bk.made w 27 #[.int .i64 3, .int .i64 a, .complex .f64 0 0, .string ⟨#[]⟩, .int .i64 0, .int .i64 0, .slice none 0 0]).alloc (.cells #[.int .i64 3, .int .i64 b, .complex .f64 0 0, .string ⟨#[]⟩, .int .i64 0, .int .i64 0, .slice none 0 0] 27)).alloc (.cells #[.int .i64 0, .int .i64 0, .complex .f64 0 0, .string ⟨#[]⟩, .int .i64 0, .int .i64 0, .slice none 0 0] 27))
  have B1 := Lib.hid ((Bk.madeAt (w := w.alloc (.cells #[.int .i64 3, .int .i64 a, .complex .f64 0 0, .string ⟨#[]⟩, .int .i64 0, .int .i64 0, .slice none 0 0] 27)) (t := 27) (cs := #[.int .i64 3, .int .i64 b, .complex .f64 0 0, .string ⟨#[]⟩, .int .i64 0, .int .i64 0, .slice none 0 0]) (b := w.heap.size + 1) (by simp)).alloc (.cells #[.int .i64 0, .int .i64 0, .complex .f64 0 0, .string ⟨#[]⟩, .int .i64 0, .int .i64 0, .slice none 0 0] 27))
  have B2 := Lib.hid (Bk.madeAt (w := (w.alloc (.cells #[.int .i64 3, .int .i64 a, .complex .f64 0 0, .string ⟨#[]⟩, .int .i64 0, .int .i64 0, .slice none 0 0] 27)).alloc (.cells #[.int .i64 3, .int .i64 b, .complex .f64 0 0, .string ⟨#[]⟩, .int .i64 0, .int .i64 0, .slice none 0 0] 27)) (t := 27) (cs := #[.int .i64 0, .int .i64 0, .complex .f64 0 0, .string ⟨#[]⟩, .int .i64 0, .int .i64 0, .slice none 0 0]) (b := w.heap.size + 2) (by simp))
  have O0 := Lib.hid ((((Only.refl [] w).alloc (.cells #[.int .i64 3, .int .i64 a, .complex .f64 0 0, .string ⟨#[]⟩, .int .i64 0, .int .i64 0, .slice none 0 0] 27)).alloc (.cells #[.int .i64 3, .int .i64 b, .complex .f64 0 0, .string ⟨#[]⟩, .int .i64 0, .int .i64 0, .slice none 0 0] 27)).alloc (.cells #[.int .i64 0, .int .i64 0, .complex .f64 0 0, .string ⟨#[]⟩, .int .i64 0, .int .i64 0, .slice none 0 0] 27))
  clear h h' hb
  go_enter Try.func6, Try.ntmps6
  have rs := store_com
  go_wp2_with fail
  (with_reducible refine (ris_binary _).mono ?_)
  rintro e w' ⟨rfl, rfl⟩
  go_wp2_with fail
  (with_reducible refine (rcheck_yes _ _ H.out).mono ?_)
  rintro e w1 ⟨rfl, o1⟩
  have O1 := Lib.hid (O0.out.trans o1 (by simp))
  have C0 := Lib.hid (B0.out.only o1 (by simp))
  have C1 := Lib.hid (B1.out.only o1 (by simp))
  have C2 := Lib.hid (B2.out.only o1 (by simp))
  obtain ⟨b0, b1, b2, b3, b4, b5, b6⟩ := C1.out.seven
  clear o1 O0 B0 B1 B2
  go_wp2_with fail
  (with_reducible refine (rcheck_yes _ _ H'.out).mono ?_)
  rintro e w2 ⟨rfl, o1⟩
  have O2 := Lib.hid (O1.out.trans o1 (by simp))
  have D2 := Lib.hid (C2.out.only o1 (by simp))
  clear b0 b1 b2 b3 b4 b5 b6
  obtain ⟨a0, a1, a2, a3, a4, a5, a6⟩ := (C0.out.only o1 (by simp)).seven
  obtain ⟨b0, b1, b2, b3, b4, b5, b6⟩ := (C1.out.only o1 (by simp)).seven
  clear o1 O1 C0 C1 C2
  go_wp2_with fail
  (with_reducible refine (rints_zero _ _ _ HB.out).mono ?_)
  rintro e w3 ⟨rfl, o1⟩
  have O3 := Lib.hid (O2.out.trans o1 (by simp))
  obtain ⟨z0, z1, z2, z3, z4, z5, z6⟩ := (D2.out.only o1 (by simp)).seven
  have zf := (D2.out.only o1 (by simp)).free
  clear o1 O2 D2 a0 a1 a2 a3 a4 a5 a6 b0 b1 b2 b3 b4 b5 b6
  go_wp2_with fail
  refine bodyPost_ret (v := .tuple #[.agg #[.int .i64 0, .int .i64 0, .complex .f64 0 0, .string ⟨#[]⟩, .int .i64 0, .int .i64 0, .slice none 0 0], .int .i64 33]) (by simp [results, Try.results6, go_sem, z0, z1, z2, z3, z4, z5, z6]) rfl ⟨rfl, ?_⟩
  exact O3.out.set7 (by omega)
end Go.Proofs.Ytnamfnejhdhfjaa
