/- Binary. -/
import Derived.Test.YtnamfnejhdhfjaaTB
namespace Go.Proofs.Ytnamfnejhdhfjaa
open Go.RowKit

def Both (k n : Int) (x y : Nat) (k' n' : Int) (x' y' : Nat) (r : Int) : Prop := ∀ w, Calls Try.prog 9 #[.agg #[.int .i64 k, .int .i64 n, .complex .f64 x y, .string ⟨#[]⟩, .int .i64 0, .int .i64 0, .slice none 0 0], .agg #[.int .i64 k', .int .i64 n', .complex .f64 x' y', .string ⟨#[]⟩, .int .i64 0, .int .i64 0, .slice none 0 0]] w fun e w' => e = .returned (.int .i64 r) ∧ Only [] w w'
theorem Both.use {k n : Int} {x y : Nat} {k' n' : Int} {x' y' : Nat} {r : Int} (h : Both k n x y k' n' x' y' r) (w : World) : Calls Try.prog 9 #[.agg #[.int .i64 k, .int .i64 n, .complex .f64 x y, .string ⟨#[]⟩, .int .i64 0, .int .i64 0, .slice none 0 0], .agg #[.int .i64 k', .int .i64 n', .complex .f64 x' y', .string ⟨#[]⟩, .int .i64 0, .int .i64 0, .slice none 0 0]] w fun e w' => e = .returned (.int .i64 r) ∧ Only [] w w' := h w

set_option maxHeartbeats 2000000 in
theorem binary_div {k n : Int} {x y : Nat} {k' n' : Int} {x' y' : Nat} (op : Int) (m er : Int) (kr : Int) (w : World) (hop : op = 9 ∨ op = 10) (hc : Both k n x y k' n' x' y' 0)
    (hD : ∀ w, Calls Try.prog 11 #[.int .i64 op, .agg #[.int .i64 k, .int .i64 n, .complex .f64 x y, .string ⟨#[]⟩, .int .i64 0, .int .i64 0, .slice none 0 0], .agg #[.int .i64 k', .int .i64 n', .complex .f64 x' y', .string ⟨#[]⟩, .int .i64 0, .int .i64 0, .slice none 0 0]] w fun e w' => e = .returned (.tuple #[.agg #[.int .i64 kr, .int .i64 m, .complex .f64 0 0, .string ⟨#[]⟩, .int .i64 0, .int .i64 0, .slice none 0 0], .int .i64 er]) ∧ Only [] w w') :
    Calls Try.prog 5 #[.int .i64 op, .agg #[.int .i64 k, .int .i64 n, .complex .f64 x y, .string ⟨#[]⟩, .int .i64 0, .int .i64 0, .slice none 0 0], .agg #[.int .i64 k', .int .i64 n', .complex .f64 x' y', .string ⟨#[]⟩, .int .i64 0, .int .i64 0, .slice none 0 0]] w fun e w' => e = .returned (.tuple #[.agg #[.int .i64 kr, .int .i64 m, .complex .f64 0 0, .string ⟨#[]⟩, .int .i64 0, .int .i64 0, .slice none 0 0], .int .i64 er]) ∧ Only [] w w' := by
  have HC := Lib.hid hc
  have HD := Lib.hid hD
  have B0 := Lib.hid (((Bk.made w 27 #[.int .i64 k, .int .i64 n, .complex .f64 x y, .string ⟨#[]⟩, .int .i64 0, .int .i64 0, .slice none 0 0]).alloc (.cells #[.int .i64 k', .int .i64 n', .complex .f64 x' y', .string ⟨#[]⟩, .int .i64 0, .int .i64 0, .slice none 0 0] 27)).alloc (.cells #[.int .i64 0, .int .i64 0, .complex .f64 0 0, .string ⟨#[]⟩, .int .i64 0, .int .i64 0, .slice none 0 0] 27))
  have B1 := Lib.hid ((Bk.madeAt (w := w.alloc (.cells #[.int .i64 k, .int .i64 n, .complex .f64 x y, .string ⟨#[]⟩, .int .i64 0, .int .i64 0, .slice none 0 0] 27)) (t := 27) (cs := #[.int .i64 k', .int .i64 n', .complex .f64 x' y', .string ⟨#[]⟩, .int .i64 0, .int .i64 0, .slice none 0 0]) (b := w.heap.size + 1) (by simp)).alloc (.cells #[.int .i64 0, .int .i64 0, .complex .f64 0 0, .string ⟨#[]⟩, .int .i64 0, .int .i64 0, .slice none 0 0] 27))
  have B2 := Lib.hid (Bk.madeAt (w := (w.alloc (.cells #[.int .i64 k, .int .i64 n, .complex .f64 x y, .string ⟨#[]⟩, .int .i64 0, .int .i64 0, .slice none 0 0] 27)).alloc (.cells #[.int .i64 k', .int .i64 n', .complex .f64 x' y', .string ⟨#[]⟩, .int .i64 0, .int .i64 0, .slice none 0 0] 27)) (t := 27) (cs := #[.int .i64 0, .int .i64 0, .complex .f64 0 0, .string ⟨#[]⟩, .int .i64 0, .int .i64 0, .slice none 0 0]) (b := w.heap.size + 2) (by simp))
  have O0 := Lib.hid ((((Only.refl [] w).alloc (.cells #[.int .i64 k, .int .i64 n, .complex .f64 x y, .string ⟨#[]⟩, .int .i64 0, .int .i64 0, .slice none 0 0] 27)).alloc (.cells #[.int .i64 k', .int .i64 n', .complex .f64 x' y', .string ⟨#[]⟩, .int .i64 0, .int .i64 0, .slice none 0 0] 27)).alloc (.cells #[.int .i64 0, .int .i64 0, .complex .f64 0 0, .string ⟨#[]⟩, .int .i64 0, .int .i64 0, .slice none 0 0] 27))
  have HI := Lib.hid (is_binary op · (.inr hop))
  clear hc hD
  rcases hop with rfl | rfl
  all_goals
    go_enter Try.func5, Try.ntmps5
    have rs := store_com
    go_wp2_with fail
    (with_reducible refine (HI.out _).mono ?_)
    rintro e w' ⟨rfl, rfl⟩
    go_wp2_with fail
    (with_reducible refine (HC.out.use _).mono ?_)
    rintro e w1 ⟨rfl, o1⟩
    have O1 := Lib.hid (O0.out.trans o1 (by simp))
    have C0 := Lib.hid (B0.out.only o1 (by simp))
    have C1 := Lib.hid (B1.out.only o1 (by simp))
    have C2 := Lib.hid (B2.out.only o1 (by simp))
    obtain ⟨a0, a1, a2, a3, a4, a5, a6⟩ := C0.out.seven
    obtain ⟨b0, b1, b2, b3, b4, b5, b6⟩ := C1.out.seven
    clear o1 O0 B0 B1 B2
    go_wp2_with fail
    (with_reducible refine (HD.out _).mono ?_)
    rintro e w2 ⟨rfl, o1⟩
    have O5 := Lib.hid (O1.out.trans o1 (by simp))
    obtain ⟨z0, z1, z2, z3, z4, z5, z6⟩ := (C2.out.only o1 (by simp)).seven
    have zf := (C2.out.only o1 (by simp)).free
    clear o1 O1 C0 C1 C2 a0 a1 a2 a3 a4 a5 a6 b0 b1 b2 b3 b4 b5 b6
    go_wp2_with fail
    refine bodyPost_ret (v := .tuple #[.agg #[.int .i64 kr, .int .i64 m, .complex .f64 0 0, .string ⟨#[]⟩, .int .i64 0, .int .i64 0, .slice none 0 0], .int .i64 er]) (by simp [results, Try.results5, go_sem, z0, z1, z2, z3, z4, z5, z6]) rfl ⟨rfl, ?_⟩
    exact O5.out.set7 (by omega)
set_option maxHeartbeats 2000000 in
theorem binary_mul {k n : Int} {x y : Nat} {k' n' : Int} {x' y' : Nat} (u v : Nat) (w : World) (hc : Both k n x y k' n' x' y' 0)
    (hD : ∀ w, Calls Try.prog 10 #[.int .i64 8, .agg #[.int .i64 k, .int .i64 n, .complex .f64 x y, .string ⟨#[]⟩, .int .i64 0, .int .i64 0, .slice none 0 0], .agg #[.int .i64 k', .int .i64 n', .complex .f64 x' y', .string ⟨#[]⟩, .int .i64 0, .int .i64 0, .slice none 0 0]] w fun e w' => e = .returned (.tuple #[.agg #[.int .i64 4, .int .i64 0, .complex .f64 u v, .string ⟨#[]⟩, .int .i64 0, .int .i64 0, .slice none 0 0], .int .i64 0]) ∧ Only [] w w') :
    Calls Try.prog 5 #[.int .i64 8, .agg #[.int .i64 k, .int .i64 n, .complex .f64 x y, .string ⟨#[]⟩, .int .i64 0, .int .i64 0, .slice none 0 0], .agg #[.int .i64 k', .int .i64 n', .complex .f64 x' y', .string ⟨#[]⟩, .int .i64 0, .int .i64 0, .slice none 0 0]] w fun e w' => e = .returned (.tuple #[.agg #[.int .i64 4, .int .i64 0, .complex .f64 u v, .string ⟨#[]⟩, .int .i64 0, .int .i64 0, .slice none 0 0], .int .i64 0]) ∧ Only [] w w' := by
  have HC := Lib.hid hc
  have HD := Lib.hid hD
  have B0 := Lib.hid (((Bk.made w 27 #[.int .i64 k, .int .i64 n, .complex .f64 x y, .string ⟨#[]⟩, .int .i64 0, .int .i64 0, .slice none 0 0]).alloc (.cells #[.int .i64 k', .int .i64 n', .complex .f64 x' y', .string ⟨#[]⟩, .int .i64 0, .int .i64 0, .slice none 0 0] 27)).alloc (.cells #[.int .i64 0, .int .i64 0, .complex .f64 0 0, .string ⟨#[]⟩, .int .i64 0, .int .i64 0, .slice none 0 0] 27))
  have B1 := Lib.hid ((Bk.madeAt (w := w.alloc (.cells #[.int .i64 k, .int .i64 n, .complex .f64 x y, .string ⟨#[]⟩, .int .i64 0, .int .i64 0, .slice none 0 0] 27)) (t := 27) (cs := #[.int .i64 k', .int .i64 n', .complex .f64 x' y', .string ⟨#[]⟩, .int .i64 0, .int .i64 0, .slice none 0 0]) (b := w.heap.size + 1) (by simp)).alloc (.cells #[.int .i64 0, .int .i64 0, .complex .f64 0 0, .string ⟨#[]⟩, .int .i64 0, .int .i64 0, .slice none 0 0] 27))
  have B2 := Lib.hid (Bk.madeAt (w := (w.alloc (.cells #[.int .i64 k, .int .i64 n, .complex .f64 x y, .string ⟨#[]⟩, .int .i64 0, .int .i64 0, .slice none 0 0] 27)).alloc (.cells #[.int .i64 k', .int .i64 n', .complex .f64 x' y', .string ⟨#[]⟩, .int .i64 0, .int .i64 0, .slice none 0 0] 27)) (t := 27) (cs := #[.int .i64 0, .int .i64 0, .complex .f64 0 0, .string ⟨#[]⟩, .int .i64 0, .int .i64 0, .slice none 0 0]) (b := w.heap.size + 2) (by simp))
  have O0 := Lib.hid ((((Only.refl [] w).alloc (.cells #[.int .i64 k, .int .i64 n, .complex .f64 x y, .string ⟨#[]⟩, .int .i64 0, .int .i64 0, .slice none 0 0] 27)).alloc (.cells #[.int .i64 k', .int .i64 n', .complex .f64 x' y', .string ⟨#[]⟩, .int .i64 0, .int .i64 0, .slice none 0 0] 27)).alloc (.cells #[.int .i64 0, .int .i64 0, .complex .f64 0 0, .string ⟨#[]⟩, .int .i64 0, .int .i64 0, .slice none 0 0] 27))
  have HI := Lib.hid (is_binary 8 · (.inl rfl))
  clear hc hD
  go_enter Try.func5, Try.ntmps5
  have rs := store_com
  go_wp2_with fail
  (with_reducible refine (HI.out _).mono ?_)
  rintro e w' ⟨rfl, rfl⟩
  go_wp2_with fail
  (with_reducible refine (HC.out.use _).mono ?_)
  rintro e w1 ⟨rfl, o1⟩
  have O1 := Lib.hid (O0.out.trans o1 (by simp))
  have C0 := Lib.hid (B0.out.only o1 (by simp))
  have C1 := Lib.hid (B1.out.only o1 (by simp))
  have C2 := Lib.hid (B2.out.only o1 (by simp))
  obtain ⟨a0, a1, a2, a3, a4, a5, a6⟩ := C0.out.seven
  obtain ⟨b0, b1, b2, b3, b4, b5, b6⟩ := C1.out.seven
  clear o1 O0 B0 B1 B2
  go_wp2_with fail
  (with_reducible refine (HD.out _).mono ?_)
  rintro e w2 ⟨rfl, o1⟩
  have O5 := Lib.hid (O1.out.trans o1 (by simp))
  obtain ⟨z0, z1, z2, z3, z4, z5, z6⟩ := (C2.out.only o1 (by simp)).seven
  have zf := (C2.out.only o1 (by simp)).free
  clear o1 O1 C0 C1 C2 a0 a1 a2 a3 a4 a5 a6 b0 b1 b2 b3 b4 b5 b6
  go_wp2_with fail
  refine bodyPost_ret (v := .tuple #[.agg #[.int .i64 4, .int .i64 0, .complex .f64 u v, .string ⟨#[]⟩, .int .i64 0, .int .i64 0, .slice none 0 0], .int .i64 0]) (by simp [results, Try.results5, go_sem, z0, z1, z2, z3, z4, z5, z6]) rfl ⟨rfl, ?_⟩
  exact O5.out.set7 (by omega)
set_option maxHeartbeats 2000000 in
theorem binary_bad {k n : Int} {x y : Nat} {k' n' : Int} {x' y' : Nat} (op r : Int) (w : World) (hop : op = 9 ∨ op = 10) (hr : r = 30) (hc : Both k n x y k' n' x' y' r) :
    Calls Try.prog 5 #[.int .i64 op, .agg #[.int .i64 k, .int .i64 n, .complex .f64 x y, .string ⟨#[]⟩, .int .i64 0, .int .i64 0, .slice none 0 0], .agg #[.int .i64 k', .int .i64 n', .complex .f64 x' y', .string ⟨#[]⟩, .int .i64 0, .int .i64 0, .slice none 0 0]] w fun e w' => e = .returned (.tuple #[.agg #[.int .i64 0, .int .i64 0, .complex .f64 0 0, .string ⟨#[]⟩, .int .i64 0, .int .i64 0, .slice none 0 0], .int .i64 30]) ∧ Only [] w w' := by
  subst hr
  have HC := Lib.hid hc
  have B2 := Lib.hid (Bk.madeAt (w := (w.alloc (.cells #[.int .i64 k, .int .i64 n, .complex .f64 x y, .string ⟨#[]⟩, .int .i64 0, .int .i64 0, .slice none 0 0] 27)).alloc (.cells #[.int .i64 k', .int .i64 n', .complex .f64 x' y', .string ⟨#[]⟩, .int .i64 0, .int .i64 0, .slice none 0 0] 27)) (t := 27) (cs := #[.int .i64 0, .int .i64 0, .complex .f64 0 0, .string ⟨#[]⟩, .int .i64 0, .int .i64 0, .slice none 0 0]) (b := w.heap.size + 2) (by simp))
  have O0 := Lib.hid ((((Only.refl [] w).alloc (.cells #[.int .i64 k, .int .i64 n, .complex .f64 x y, .string ⟨#[]⟩, .int .i64 0, .int .i64 0, .slice none 0 0] 27)).alloc (.cells #[.int .i64 k', .int .i64 n', .complex .f64 x' y', .string ⟨#[]⟩, .int .i64 0, .int .i64 0, .slice none 0 0] 27)).alloc (.cells #[.int .i64 0, .int .i64 0, .complex .f64 0 0, .string ⟨#[]⟩, .int .i64 0, .int .i64 0, .slice none 0 0] 27))
  have HI := Lib.hid (is_binary op · (.inr hop))
  clear hc
  rcases hop with rfl | rfl
  all_goals
    go_enter Try.func5, Try.ntmps5
    have rs := store_com
    go_wp2_with fail
    (with_reducible refine (HI.out _).mono ?_)
    rintro e w' ⟨rfl, rfl⟩
    go_wp2_with fail
    (with_reducible refine (HC.out.use _).mono ?_)
    rintro e w1 ⟨rfl, o1⟩
    have O1 := Lib.hid (O0.out.trans o1 (by simp))
    obtain ⟨z0, z1, z2, z3, z4, z5, z6⟩ := (B2.out.only o1 (by simp)).seven
    have zf := (B2.out.only o1 (by simp)).free
    clear o1 O0 B2
    go_wp2_with fail
    refine bodyPost_ret (v := .tuple #[.agg #[.int .i64 0, .int .i64 0, .complex .f64 0 0, .string ⟨#[]⟩, .int .i64 0, .int .i64 0, .slice none 0 0], .int .i64 30]) (by simp [results, Try.results5, go_sem, z0, z1, z2, z3, z4, z5, z6]) rfl ⟨rfl, ?_⟩
    exact O1.out.set7 (by omega)
end Go.Proofs.Ytnamfnejhdhfjaa
