/- order and Compare, of complex numbers. -/
import Derived.Test.YtnamfnejhdhfjaaTE
import Derived.Test.YtnamfnejhdhfjaaTail
namespace Go.Proofs.Ytnamfnejhdhfjaa
open Go.RowKit

theorem is_nan (x : Nat) (w : World) (h : FloatKind.f64.format.order x x = some .eq) : Calls Try.prog 56 #[.float .f64 x] w fun e w' => e = .returned (.bool false) ∧ w = w' := by
  go_enter Try.func56, Try.ntmps56
  go_wp2_with fail
  go_ret
  exact ⟨rfl, rfl⟩
theorem cmp_lt (x y : Nat) (w : World) (hx : FloatKind.f64.format.order x x = some .eq) (hy : FloatKind.f64.format.order y y = some .eq) (h : FloatKind.f64.format.order x y = some .lt) : Calls Try.prog 38 #[.float .f64 x, .float .f64 y] w fun e w' => e = .returned (.int .i64 (-1)) ∧ w = w' := by
  have HX := Lib.hid hx
  have HY := Lib.hid hy
  clear hx hy
  go_enter Try.func38, Try.ntmps38
  go_wp2_with fail
  (with_reducible refine (is_nan _ _ HX.out).mono ?_)
  rintro e w' ⟨rfl, rfl⟩
  go_wp2_with fail
  (with_reducible refine (is_nan _ _ HY.out).mono ?_)
  rintro e w' ⟨rfl, rfl⟩
  go_wp2_with fail
  go_ret
  exact ⟨rfl, rfl⟩
theorem or_first (a b : Int) (g : Nat) (w : World) (hb : Bk w g 3 #[.int .i64 a, .int .i64 b]) (ha : (a != 0) = true) : Calls Try.prog 37 #[.slice (some ⟨g, 0, none⟩) 2 2] w fun e w' => e = .returned (.int .i64 a) ∧ w = w' := by
  have c0 := hb.cell0 (i := 0) rfl
  clear hb
  go_enter Try.func37, Try.ntmps37
  go_wp2_with fail
  refine wp_loop_rounds 1 ?_
  rw [rounds_succ]
  go_wp2_with fail
  go_ret
  exact ⟨rfl, rfl⟩
set_option maxHeartbeats 2000000 in
theorem order_com (p q r s : Nat) (w : World)
    (h1 : ∀ w, Calls Try.prog 38 #[.float .f64 p, .float .f64 r] w fun e w' => e = .returned (.int .i64 (-1)) ∧ w' = w)
    (h2 : ∀ w, Calls Try.prog 38 #[.float .f64 q, .float .f64 s] w fun e w' => e = .returned (.int .i64 (-1)) ∧ w' = w) :
    Calls Try.prog 14 #[.agg #[.int .i64 4, .int .i64 0, .complex .f64 p q, .string ⟨#[]⟩, .int .i64 0, .int .i64 0, .slice none 0 0], .agg #[.int .i64 4, .int .i64 0, .complex .f64 r s, .string ⟨#[]⟩, .int .i64 0, .int .i64 0, .slice none 0 0]] w fun e w' => e = .returned (.int .i64 (-1)) ∧ Only [] w w' := by
  have H1 := Lib.hid h1
  have H2 := Lib.hid h2
  clear h1 h2
  go_enter Try.func14, Try.ntmps14
  go_wp2_with fail
  refine wp_region_quiet_then 14 (by kernel_rfl) (by kernel_rfl) ?_
  simp only [List.take_succ_cons, List.take_zero, List.drop_succ_cons, List.drop_zero]
  repeat (go_big_quiet_step ((go_at_call 38; first | (with_reducible exact Calls.quiet_of_same (H1.out _)) | (with_reducible exact Calls.quiet_of_same (H2.out _)))))
  refine wpQuiet_nil ?_
  intro k
  go_wp2_with fail
  (refine (or_first (-1) (-1) _ _ ?_ rfl).mono ?_)
  · first | exact Bk.madeAt (by simp) | exact Bk.drewN (Bk.madeAt (by simp)) _
  rintro e w' ⟨rfl, rfl⟩
  go_wp2_with fail
  go_ret
  exact ⟨rfl, by first | exact ((((Only.refl _ _).alloc _).alloc _).alloc _).drewN _ | exact ((((Only.refl _ _).alloc _).alloc _).drewN _).alloc _⟩

theorem compare_com (p q r s : Nat) (w : World) (hc : Both 4 0 p q 4 0 r s 0)
    (hO : ∀ w, Calls Try.prog 14 #[.agg #[.int .i64 4, .int .i64 0, .complex .f64 p q, .string ⟨#[]⟩, .int .i64 0, .int .i64 0, .slice none 0 0], .agg #[.int .i64 4, .int .i64 0, .complex .f64 r s, .string ⟨#[]⟩, .int .i64 0, .int .i64 0, .slice none 0 0]] w fun e w' => e = .returned (.int .i64 (-1)) ∧ Only [] w w') :
    Calls Try.prog 28 #[.agg #[.int .i64 4, .int .i64 0, .complex .f64 p q, .string ⟨#[]⟩, .int .i64 0, .int .i64 0, .slice none 0 0], .agg #[.int .i64 4, .int .i64 0, .complex .f64 r s, .string ⟨#[]⟩, .int .i64 0, .int .i64 0, .slice none 0 0]] w fun e w' => e = .returned (.tuple #[.int .i64 (-1), .int .i64 0]) ∧ Only [] w w' := by
  have HC := Lib.hid hc
  have HO := Lib.hid hO
  have B0 := Lib.hid ((Bk.made w 27 #[.int .i64 4, .int .i64 0, .complex .f64 p q, .string ⟨#[]⟩, .int .i64 0, .int .i64 0, .slice none 0 0]).alloc (.cells #[.int .i64 4, .int .i64 0, .complex .f64 r s, .string ⟨#[]⟩, .int .i64 0, .int .i64 0, .slice none 0 0] 27))
  have B1 := Lib.hid (Bk.madeAt (w := w.alloc (.cells #[.int .i64 4, .int .i64 0, .complex .f64 p q, .string ⟨#[]⟩, .int .i64 0, .int .i64 0, .slice none 0 0] 27)) (t := 27) (cs := #[.int .i64 4, .int .i64 0, .complex .f64 r s, .string ⟨#[]⟩, .int .i64 0, .int .i64 0, .slice none 0 0]) (b := w.heap.size + 1) (by simp))
  have O0 := Lib.hid (((Only.refl [] w).alloc (.cells #[.int .i64 4, .int .i64 0, .complex .f64 p q, .string ⟨#[]⟩, .int .i64 0, .int .i64 0, .slice none 0 0] 27)).alloc (.cells #[.int .i64 4, .int .i64 0, .complex .f64 r s, .string ⟨#[]⟩, .int .i64 0, .int .i64 0, .slice none 0 0] 27))
  clear hc hO
  go_enter Try.func28, Try.ntmps28
  go_wp2_with fail
  (with_reducible refine (HC.out.use _).mono ?_)
  rintro e w1 ⟨rfl, o1⟩
  have O1 := Lib.hid (O0.out.trans o1 (by simp))
  obtain ⟨a0, a1, a2, a3, a4, a5, a6⟩ := (B0.out.only o1 (by simp)).seven
  obtain ⟨b0, b1, b2, b3, b4, b5, b6⟩ := (B1.out.only o1 (by simp)).seven
  clear o1 O0 B0 B1
  go_wp2_with fail
  (with_reducible refine (HO.out _).mono ?_)
  rintro e w2 ⟨rfl, o1⟩
  have O2 := Lib.hid (O1.out.trans o1 (by simp))
  clear o1
  go_wp2_with fail
  go_ret2
  exact ⟨rfl, O2.out⟩

/- what must come -/
theorem b12_34 : Both 4 0 4607182418800017408 4611686018427387904 4 0 4613937818241073152 4616189618054758400 0 := fun w => both_of w (chk_com okF1 okF2) (chk_com okF3 okF4)
theorem mul_ex (w : World) : Calls Try.prog 5 #[.int .i64 8, .agg #[.int .i64 4, .int .i64 0, .complex .f64 4607182418800017408 4611686018427387904, .string ⟨#[]⟩, .int .i64 0, .int .i64 0, .slice none 0 0], .agg #[.int .i64 4, .int .i64 0, .complex .f64 4613937818241073152 4616189618054758400, .string ⟨#[]⟩, .int .i64 0, .int .i64 0, .slice none 0 0]] w fun e w' => e = .returned (.tuple #[.agg #[.int .i64 4, .int .i64 0, .complex .f64 13840687554816376832 4621819117588971520, .string ⟨#[]⟩, .int .i64 0, .int .i64 0, .slice none 0 0], .int .i64 0]) ∧ Only [] w w' :=
  binary_mul _ _ w b12_34 fun w => reckon_mul _ _ _ _ _ _ w fun w => reckon_com _ _ _ _ _ _ (-5) 10 w (by decide) (by decide) (by decide) (by decide) (by decide) (by decide) (by decide) (by decide) (by decide)
theorem cmp_ex (w : World) : Calls Try.prog 28 #[.agg #[.int .i64 4, .int .i64 0, .complex .f64 4607182418800017408 4611686018427387904, .string ⟨#[]⟩, .int .i64 0, .int .i64 0, .slice none 0 0], .agg #[.int .i64 4, .int .i64 0, .complex .f64 4613937818241073152 4616189618054758400, .string ⟨#[]⟩, .int .i64 0, .int .i64 0, .slice none 0 0]] w fun e w' => e = .returned (.tuple #[.int .i64 (-1), .int .i64 0]) ∧ Only [] w w' :=
  compare_com _ _ _ _ w b12_34 fun w => order_com _ _ _ _ w (fun w => (cmp_lt _ _ w okF1.me okF3.me (by decide)).mono fun _ _ h => ⟨h.1, h.2.symm⟩) (fun w => (cmp_lt _ _ w okF2.me okF4.me (by decide)).mono fun _ _ h => ⟨h.1, h.2.symm⟩)
end Go.Proofs.Ytnamfnejhdhfjaa
