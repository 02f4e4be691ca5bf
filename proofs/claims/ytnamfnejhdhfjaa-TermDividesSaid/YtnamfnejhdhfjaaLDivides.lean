/- The law TermDivides, walked. -/
import Derived.Test.YtnamfnejhdhfjaaTS
import Derived.Test.YtnamfnejhdhfjaaTA
namespace Go.Proofs.Ytnamfnejhdhfjaa
open Go.RowKit

theorem both_bad {k n : Int} {x y : Nat} {k' n' : Int} {x' y' : Nat} (w : World) (h : Chk k n x y 30) :
    Calls Try.prog 9 #[.agg #[.int .i64 k, .int .i64 n, .complex .f64 x y, .string ⟨#[]⟩, .int .i64 0, .int .i64 0, .slice none 0 0], .agg #[.int .i64 k', .int .i64 n', .complex .f64 x' y', .string ⟨#[]⟩, .int .i64 0, .int .i64 0, .slice none 0 0]] w fun e w' => e = .returned (.int .i64 30) ∧ Only [] w w' := by
  have H := Lib.hid h
  clear h
  go_enter Try.func9, Try.ntmps9
  go_wp2_with fail
  (with_reducible refine (H.out.use _).mono ?_)
  rintro e w1 ⟨rfl, o1⟩
  have O1 := Lib.hid ((((Only.refl [] w).alloc (.cells #[.int .i64 k, .int .i64 n, .complex .f64 x y, .string ⟨#[]⟩, .int .i64 0, .int .i64 0, .slice none 0 0] 27)).alloc (.cells #[.int .i64 k', .int .i64 n', .complex .f64 x' y', .string ⟨#[]⟩, .int .i64 0, .int .i64 0, .slice none 0 0] 27)).trans o1 (by simp))
  clear o1
  go_wp2_with fail
  go_ret
  exact ⟨rfl, O1.out⟩
theorem use7 {w w' : World} {b : Nat} {t : TypeId} {cs : Array Value} (h : Bk w b t cs) (o : Only [] w w') : Bk w' b t cs := h.only o (by simp)

set_option maxHeartbeats 2000000 in
theorem divides_err (a b er : Int) (w : World) (h1 : (er != 0) = true)
    (hQ : ∀ w, Calls Try.prog 5 #[.int .i64 9, .agg #[.int .i64 3, .int .i64 a, .complex .f64 0 0, .string ⟨#[]⟩, .int .i64 0, .int .i64 0, .slice none 0 0], .agg #[.int .i64 3, .int .i64 b, .complex .f64 0 0, .string ⟨#[]⟩, .int .i64 0, .int .i64 0, .slice none 0 0]] w fun e w' => e = .returned (.tuple #[.agg #[.int .i64 0, .int .i64 0, .complex .f64 0 0, .string ⟨#[]⟩, .int .i64 0, .int .i64 0, .slice none 0 0], .int .i64 er]) ∧ Only [] w w')
    (hR : ∀ w, Calls Try.prog 5 #[.int .i64 10, .agg #[.int .i64 3, .int .i64 a, .complex .f64 0 0, .string ⟨#[]⟩, .int .i64 0, .int .i64 0, .slice none 0 0], .agg #[.int .i64 3, .int .i64 b, .complex .f64 0 0, .string ⟨#[]⟩, .int .i64 0, .int .i64 0, .slice none 0 0]] w fun e w' => e = .returned (.tuple #[.agg #[.int .i64 0, .int .i64 0, .complex .f64 0 0, .string ⟨#[]⟩, .int .i64 0, .int .i64 0, .slice none 0 0], .int .i64 er]) ∧ Only [] w w')
    (hS : ∀ w, Calls Try.prog 6 #[.int .i64 9, .agg #[.int .i64 3, .int .i64 a, .complex .f64 0 0, .string ⟨#[]⟩, .int .i64 0, .int .i64 0, .slice none 0 0], .agg #[.int .i64 3, .int .i64 b, .complex .f64 0 0, .string ⟨#[]⟩, .int .i64 0, .int .i64 0, .slice none 0 0]] w fun e w' => e = .returned (.tuple #[.agg #[.int .i64 0, .int .i64 0, .complex .f64 0 0, .string ⟨#[]⟩, .int .i64 0, .int .i64 0, .slice none 0 0], .int .i64 er]) ∧ Only [] w w') :
    Calls Try.prog 3 #[.int .i64 a, .int .i64 b] w fun e w' => e = .returned (.bool true) ∧ Only [] w w' := by
  have HQ := Lib.hid hQ
  have HR := Lib.hid hR
  have HS := Lib.hid hS
  have h2 : (er == er) = true := beq_self_eq_true _
  clear hQ hR hS
  go_enter Try.func3, Try.ntmps3
  have rs := store_com
  go_wp2_with fail
  (with_reducible refine (rint _ _).mono ?_)
  rintro e w1 ⟨rfl, o1⟩
  have O1 := Lib.hid o1
  clear o1
  go_wp2_with fail
  (with_reducible refine (rint _ _).mono ?_)
  rintro e w2 ⟨rfl, o1⟩
  have O2 := Lib.hid (((O1.out.trans o1 (by simp)).alloc (.cells #[.int .i64 3, .int .i64 a, .complex .f64 0 0, .string ⟨#[]⟩, .int .i64 0, .int .i64 0, .slice none 0 0] 27)).alloc (.cells #[.int .i64 3, .int .i64 b, .complex .f64 0 0, .string ⟨#[]⟩, .int .i64 0, .int .i64 0, .slice none 0 0] 27))
  have BA := Lib.hid ((Bk.made w2 27 #[.int .i64 3, .int .i64 a, .complex .f64 0 0, .string ⟨#[]⟩, .int .i64 0, .int .i64 0, .slice none 0 0]).alloc (.cells #[.int .i64 3, .int .i64 b, .complex .f64 0 0, .string ⟨#[]⟩, .int .i64 0, .int .i64 0, .slice none 0 0] 27))
  have BB := Lib.hid (Bk.madeAt (w := w2.alloc (.cells #[.int .i64 3, .int .i64 a, .complex .f64 0 0, .string ⟨#[]⟩, .int .i64 0, .int .i64 0, .slice none 0 0] 27)) (t := 27) (cs := #[.int .i64 3, .int .i64 b, .complex .f64 0 0, .string ⟨#[]⟩, .int .i64 0, .int .i64 0, .slice none 0 0]) (b := w2.heap.size + 1) (by simp))
  clear o1 O1
  go_wp2_with fail
  (with_reducible refine (HQ.out _).mono ?_)
  rintro e w3 ⟨rfl, o1⟩
  have O3 := Lib.hid ((O2.out.trans o1 (by simp)).alloc (.cells #[.int .i64 0, .int .i64 0, .complex .f64 0 0, .string ⟨#[]⟩, .int .i64 0, .int .i64 0, .slice none 0 0] 27))
  have CA := Lib.hid ((use7 BA.out o1).alloc (.cells #[.int .i64 0, .int .i64 0, .complex .f64 0 0, .string ⟨#[]⟩, .int .i64 0, .int .i64 0, .slice none 0 0] 27))
  have CB := Lib.hid ((use7 BB.out o1).alloc (.cells #[.int .i64 0, .int .i64 0, .complex .f64 0 0, .string ⟨#[]⟩, .int .i64 0, .int .i64 0, .slice none 0 0] 27))
  obtain ⟨a0, a1, a2, a3, a4, a5, a6⟩ := (use7 BA.out o1).seven
  obtain ⟨b0, b1, b2, b3, b4, b5, b6⟩ := (use7 BB.out o1).seven
  have hs1 := (use7 BA.out o1).lt
  have hs2 := (use7 BB.out o1).lt
  clear o1 O2 BA BB
  go_wp2_with fail
  (with_reducible refine (HR.out _).mono ?_)
  rintro e w4 ⟨rfl, o1⟩
  have O4 := Lib.hid ((O3.out.trans o1 (by simp)).alloc (.cells #[.int .i64 0, .int .i64 0, .complex .f64 0 0, .string ⟨#[]⟩, .int .i64 0, .int .i64 0, .slice none 0 0] 27))
  have DA := Lib.hid (use7 CA.out o1)
  have DB := Lib.hid (use7 CB.out o1)
  clear a0 a1 a2 a3 a4 a5 a6 b0 b1 b2 b3 b4 b5 b6 o1 O3 CA CB hs1 hs2
  obtain ⟨a0, a1, a2, a3, a4, a5, a6⟩ := DA.out.seven
  obtain ⟨b0, b1, b2, b3, b4, b5, b6⟩ := DB.out.seven
  have hs1 := DA.out.lt
  have hs2 := DB.out.lt
  go_wp2_with fail
  (with_reducible refine (HS.out _).mono ?_)
  rintro e w5 ⟨rfl, o1⟩
  have O5 := Lib.hid ((O4.out.trans o1 (by simp)).alloc (.cells #[.int .i64 0, .int .i64 0, .complex .f64 0 0, .string ⟨#[]⟩, .int .i64 0, .int .i64 0, .slice none 0 0] 27))
  clear a0 a1 a2 a3 a4 a5 a6 b0 b1 b2 b3 b4 b5 b6 o1 O4 DA DB hs1 hs2
  go_wp2_with fail
  (with_reducible refine (awake_any _).mono ?_)
  rintro e w6 ⟨rfl, o1⟩
  have O6 := Lib.hid (O5.out.trans o1 (by simp))
  clear o1 O5
  go_wp2_with fail
  go_ret
  exact ⟨rfl, O6.out⟩
/-- How a rest stands to what is divided, and to by what. -/
def Fits (a b r : Int) : Prop :=
  ((r != 0) = false ∨ ((r != 0) = true ∧ decide (r < 0) = true ∧ decide (a < 0) = true) ∨ ((r != 0) = true ∧ decide (r < 0) = false ∧ decide (a < 0) = false)) ∧
  ((decide (r < b) = true ∧ decide (r < -b) = false ∧ decide (0 < b) = true ∧ decide (-b < r) = true ∧ decide (b < r) = false ∧ decide (b < 0) = false) ∨
   (decide (r < b) = false ∧ decide (r < -b) = true ∧ decide (0 < b) = false ∧ decide (-b < r) = false ∧ decide (b < r) = true ∧ decide (b < 0) = true))
set_option maxHeartbeats 4000000 in
theorem divides_yes (a b q r : Int) (w : World) (hw1 : wrap64 (q * b) = q * b) (hw2 : wrap64 (q * b + r) = a) (hw3 : wrap64 (-b) = -b) (hF : Fits a b r)
    (hQ : ∀ w, Calls Try.prog 5 #[.int .i64 9, .agg #[.int .i64 3, .int .i64 a, .complex .f64 0 0, .string ⟨#[]⟩, .int .i64 0, .int .i64 0, .slice none 0 0], .agg #[.int .i64 3, .int .i64 b, .complex .f64 0 0, .string ⟨#[]⟩, .int .i64 0, .int .i64 0, .slice none 0 0]] w fun e w' => e = .returned (.tuple #[.agg #[.int .i64 3, .int .i64 q, .complex .f64 0 0, .string ⟨#[]⟩, .int .i64 0, .int .i64 0, .slice none 0 0], .int .i64 0]) ∧ Only [] w w')
    (hR : ∀ w, Calls Try.prog 5 #[.int .i64 10, .agg #[.int .i64 3, .int .i64 a, .complex .f64 0 0, .string ⟨#[]⟩, .int .i64 0, .int .i64 0, .slice none 0 0], .agg #[.int .i64 3, .int .i64 b, .complex .f64 0 0, .string ⟨#[]⟩, .int .i64 0, .int .i64 0, .slice none 0 0]] w fun e w' => e = .returned (.tuple #[.agg #[.int .i64 3, .int .i64 r, .complex .f64 0 0, .string ⟨#[]⟩, .int .i64 0, .int .i64 0, .slice none 0 0], .int .i64 0]) ∧ Only [] w w') :
    Calls Try.prog 3 #[.int .i64 a, .int .i64 b] w fun e w' => e = .returned (.bool true) ∧ Only [] w w' := by
  rcases hF with ⟨s1 | ⟨s1, s2, s3⟩ | ⟨s1, s2, s3⟩, ⟨t1, t2, t3, t4, t5, t6⟩ | ⟨t1, t2, t3, t4, t5, t6⟩⟩
  all_goals
    have HQ := Lib.hid hQ
    have HR := Lib.hid hR
    clear hQ hR
    go_enter Try.func3, Try.ntmps3
    have rs := store_com
    go_wp2_with fail
    (with_reducible refine (rint _ _).mono ?_)
    rintro e w1 ⟨rfl, o1⟩
    have O1 := Lib.hid o1
    clear o1
    go_wp2_with fail
    (with_reducible refine (rint _ _).mono ?_)
    rintro e w2 ⟨rfl, o1⟩
    have O2 := Lib.hid (((O1.out.trans o1 (by simp)).alloc (.cells #[.int .i64 3, .int .i64 a, .complex .f64 0 0, .string ⟨#[]⟩, .int .i64 0, .int .i64 0, .slice none 0 0] 27)).alloc (.cells #[.int .i64 3, .int .i64 b, .complex .f64 0 0, .string ⟨#[]⟩, .int .i64 0, .int .i64 0, .slice none 0 0] 27))
    have BA := Lib.hid ((Bk.made w2 27 #[.int .i64 3, .int .i64 a, .complex .f64 0 0, .string ⟨#[]⟩, .int .i64 0, .int .i64 0, .slice none 0 0]).alloc (.cells #[.int .i64 3, .int .i64 b, .complex .f64 0 0, .string ⟨#[]⟩, .int .i64 0, .int .i64 0, .slice none 0 0] 27))
    have BB := Lib.hid (Bk.madeAt (w := w2.alloc (.cells #[.int .i64 3, .int .i64 a, .complex .f64 0 0, .string ⟨#[]⟩, .int .i64 0, .int .i64 0, .slice none 0 0] 27)) (t := 27) (cs := #[.int .i64 3, .int .i64 b, .complex .f64 0 0, .string ⟨#[]⟩, .int .i64 0, .int .i64 0, .slice none 0 0]) (b := w2.heap.size + 1) (by simp))
    clear o1 O1
    go_wp2_with fail
    (with_reducible refine (HQ.out _).mono ?_)
    rintro e w3 ⟨rfl, o1⟩
    have O3 := Lib.hid ((O2.out.trans o1 (by simp)).alloc (.cells #[.int .i64 3, .int .i64 q, .complex .f64 0 0, .string ⟨#[]⟩, .int .i64 0, .int .i64 0, .slice none 0 0] 27))
    have CQ := Lib.hid (Bk.made w3 27 #[.int .i64 3, .int .i64 q, .complex .f64 0 0, .string ⟨#[]⟩, .int .i64 0, .int .i64 0, .slice none 0 0])
    obtain ⟨a0, a1, a2, a3, a4, a5, a6⟩ := (use7 BA.out o1).seven
    obtain ⟨b0, b1, b2, b3, b4, b5, b6⟩ := (use7 BB.out o1).seven
    have hs1 := (use7 BA.out o1).lt
    have hs2 := (use7 BB.out o1).lt
    clear o1 O2 BA BB
    go_wp2_with fail
    (with_reducible refine (HR.out _).mono ?_)
    rintro e w4 ⟨rfl, o1⟩
    have O4 := Lib.hid ((O3.out.trans o1 (by simp)).alloc (.cells #[.int .i64 3, .int .i64 r, .complex .f64 0 0, .string ⟨#[]⟩, .int .i64 0, .int .i64 0, .slice none 0 0] 27))
    obtain ⟨q0, q1, q2, q3, q4, q5, q6⟩ := (use7 CQ.out o1).seven
    have hs3 := (use7 CQ.out o1).lt
    clear a0 a1 a2 a3 a4 a5 a6 b0 b1 b2 b3 b4 b5 b6 o1 O3 CQ hs1 hs2
    go_wp2_with fail
    (with_reducible refine (awake_any _).mono ?_)
    rintro e w6 ⟨rfl, o1⟩
    have O6 := Lib.hid (O4.out.trans o1 (by simp))
    clear o1 O4
    go_wp2_with fail
    go_ret
    exact ⟨rfl, O6.out⟩
theorem fits_of {a b : Int} (h0 : b ≠ 0) : Fits a b (a.tmod b) := by
  have hs : a.tmod b = 0 ∨ (a.tmod b < 0 ∧ a < 0) ∨ (0 < a.tmod b ∧ 0 ≤ a) := by
    by_cases h : 0 ≤ a
    · have := Int.tmod_nonneg b h
      omega
    · have h1 := Int.tmod_nonneg b (show 0 ≤ -a by omega)
      rw [Int.neg_tmod] at h1
      omega
  have hl : (a.tmod b).natAbs < b.natAbs := by
    rw [Int.natAbs_tmod]
    exact Nat.mod_lt _ (by omega)
  generalize a.tmod b = r at *
  refine ⟨?_, ?_⟩
  · rcases hs with h | ⟨h, h'⟩ | ⟨h, h'⟩
    · exact .inl (by simp [h])
    · exact .inr (.inl ⟨by simp; omega, decide_eq_true h, decide_eq_true h'⟩)
    · exact .inr (.inr ⟨by simp; omega, decide_eq_false (by omega), decide_eq_false (by omega)⟩)
  · by_cases hp : 0 < b
    · exact .inl ⟨decide_eq_true (by omega), decide_eq_false (by omega), decide_eq_true hp, decide_eq_true (by omega), decide_eq_false (by omega), decide_eq_false (by omega)⟩
    · exact .inr ⟨decide_eq_false (by omega), decide_eq_true (by omega), decide_eq_false (by omega), decide_eq_false (by omega), decide_eq_true (by omega), decide_eq_true (by omega)⟩
theorem divides_any (a b : Int) (w : World) :
    Calls Try.prog 3 #[.int .i64 a, .int .i64 b] w fun e w' => e = .returned (.bool true) ∧ Only [] w w' := by
  by_cases ha : OkInt a
  · by_cases hb : OkInt b
    · have hB : Both 3 a 0 0 3 b 0 0 0 := fun w => both_of w (chk_int_yes ha) (chk_int_yes hb)
      by_cases h0 : b = 0
      · exact divides_err a b 33 w (by decide) (fun w => binary_div 9 0 33 0 w (.inl rfl) hB fun w => divide_zero 9 a b w h0) (fun w => binary_div 10 0 33 0 w (.inr rfl) hB fun w => divide_zero 10 a b w h0) (fun w => rbinary_zero a b w ha hb h0)
      · have hm : a.tdiv b * b + a.tmod b = a := by
          rw [Int.mul_comm]
          exact Int.mul_tdiv_add_tmod a b
        have hr := okInt_rem (b := b) ha
        have hl : (a.tmod b).natAbs ≤ a.natAbs := by
          rw [Int.natAbs_tmod]
          exact Nat.mod_le _ _
        have hq : wrap64 (a.tdiv b * b) = a.tdiv b * b := by
          obtain ⟨x1, x2⟩ := ha
          exact wrap64_in (by omega) (by omega)
        exact divides_yes a b (a.tdiv b) (a.tmod b) w hq (by rw [hm]; obtain ⟨x1, x2⟩ := ha; exact wrap64_in (by omega) (by omega)) (by obtain ⟨x1, x2⟩ := hb; exact wrap64_in (by omega) (by omega)) (fits_of h0)
          (fun w => binary_div 9 _ 0 3 w (.inl rfl) hB fun w => divide_quo a b w ha h0) (fun w => binary_div 10 _ 0 3 w (.inr rfl) hB fun w => divide_rem a b w ha h0)
    · have hB : Both 3 a 0 0 3 b 0 0 30 := fun w => both_of w (chk_int_yes ha) (chk_int_no hb)
      exact divides_err a b 30 w (by decide) (fun w => binary_bad 9 30 w (.inl rfl) rfl hB) (fun w => binary_bad 10 30 w (.inr rfl) rfl hB) (fun w => rbinary_no2 a b w ha hb)
  · have hB : Both 3 a 0 0 3 b 0 0 30 := fun w => both_bad w (chk_int_no ha)
    exact divides_err a b 30 w (by decide) (fun w => binary_bad 9 30 w (.inl rfl) rfl hB) (fun w => binary_bad 10 30 w (.inr rfl) rfl hB) (fun w => rbinary_no a b w ha)
end Go.Proofs.Ytnamfnejhdhfjaa
