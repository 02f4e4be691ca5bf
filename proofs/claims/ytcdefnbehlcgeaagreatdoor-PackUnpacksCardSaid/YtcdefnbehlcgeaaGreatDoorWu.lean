/- The document's Same of a term and none; its one, by the pattern's kind.. -/
import Derived.Test.YtcdefnbehlcgeaaGreatDoorWt
set_option maxHeartbeats 4000000
set_option maxRecDepth 20000
namespace Go.Proofs.YtcdefnbehlcgeaaGreatDoor
open Go.RowKit
theorem rsame_yes (w : World) : Calls Tryz.prog 37 #[.agg #[.int .i64 0, .int .i64 0, .complex .f64 0 0, .string ⟨#[]⟩, .int .i64 0, .int .i64 0, .slice none 0 0], .agg #[.int .i64 0, .int .i64 0, .complex .f64 0 0, .string ⟨#[]⟩, .int .i64 0, .int .i64 0, .slice none 0 0]] w fun e w' => e = .returned (.bool true) ∧ Only [] w w' := by
 have rs := store_com
 have z0 := z64
 have e0 := eqPid 0 0 0 0
 go_enter Tryz.func37, Tryz.ntmps37
 go_wp2_with fail
 refine wp_loop_rounds 1 ?_
 rw [rounds_succ]
 go_wp2_with fail
 go_ret
 exact ⟨rfl, ((Only.refl [] w).alloc _).alloc _⟩
theorem rsame_no (k n : Int) (x y : Nat) (S : ByteArray) (a b : Int) (A : Option Addr) (m c : Nat) (w : World) (h : k ≠ 0) : Calls Tryz.prog 37 #[.agg #[.int .i64 k, .int .i64 n, .complex .f64 x y, .string S, .int .i64 a, .int .i64 b, .slice A m c], .agg #[.int .i64 0, .int .i64 0, .complex .f64 0 0, .string ⟨#[]⟩, .int .i64 0, .int .i64 0, .slice none 0 0]] w fun e w' => e = .returned (.bool false) ∧ Only [] w w' := by
 have rs := store_com
 have e0 : (k != 0) = true := by simpa using h
 clear h
 go_enter Tryz.func37, Tryz.ntmps37
 go_wp2_with fail
 go_ret
 exact ⟨rfl, ((Only.refl [] w).alloc _).alloc _⟩
theorem rone_any (A B : Option Addr) (c c' : Nat)  (L : Int) (w : World)  : Calls Tryz.prog 117 #[.agg #[.int .i64 1, .int .i64 0, .int .i64 0, .int .i64 0, .complex .f64 0 0, .string ⟨#[]⟩, .int .i64 0, .int .i64 0, .slice none 0 0, .slice A 0 c, .slice B 0 c'], .int .i64 L] w fun e w' => e = .returned (.bool true) ∧ Only [] w w' := by
 have rs := store_com
 have HZ := Lib.hid (fun w => rsame_yes w)
 have BI := Lib.hid (Bk.made w 88 #[.int .i64 1, .int .i64 0, .int .i64 0, .int .i64 0, .complex .f64 0 0, .string ⟨#[]⟩, .int .i64 0, .int .i64 0, .slice none 0 0, .slice A 0 c, .slice B 0 c'])
 have O0 := Lib.hid ((Only.refl [] w).alloc (.cells #[.int .i64 1, .int .i64 0, .int .i64 0, .int .i64 0, .complex .f64 0 0, .string ⟨#[]⟩, .int .i64 0, .int .i64 0, .slice none 0 0, .slice A 0 c, .slice B 0 c'] 88))
 go_enter Tryz.func117, Tryz.ntmps117
 go_wp2_with fail
 (with_reducible refine (HZ.out _).mono ?_)
 rintro e w1 ⟨rfl, o1⟩
 have OA := Lib.hid (O0.out.trans o1 (by simp))
 have BA := Lib.hid (BI.out.only o1 (by simp))
 obtain ⟨k0, k1, k2, k3, k4, k5, k6, k7, k8, k9, k10⟩ := BA.out.elevenH
 clear o1
 go_wp2_with fail
 go_ret
 exact ⟨rfl, OA.out⟩
theorem rone_var_yes (A B : Option Addr) (c c' : Nat) (n : Int) (L : Int) (w : World) (h0 : 0 ≤ n) (h1 : n < L) : Calls Tryz.prog 117 #[.agg #[.int .i64 2, .int .i64 n, .int .i64 0, .int .i64 0, .complex .f64 0 0, .string ⟨#[]⟩, .int .i64 0, .int .i64 0, .slice none 0 0, .slice A 0 c, .slice B 0 c'], .int .i64 L] w fun e w' => e = .returned (.bool true) ∧ Only [] w w' := by
 have rs := store_com
 have HZ := Lib.hid (fun w => rsame_yes w)
 have BI := Lib.hid (Bk.made w 88 #[.int .i64 2, .int .i64 n, .int .i64 0, .int .i64 0, .complex .f64 0 0, .string ⟨#[]⟩, .int .i64 0, .int .i64 0, .slice none 0 0, .slice A 0 c, .slice B 0 c'])
 have O0 := Lib.hid ((Only.refl [] w).alloc (.cells #[.int .i64 2, .int .i64 n, .int .i64 0, .int .i64 0, .complex .f64 0 0, .string ⟨#[]⟩, .int .i64 0, .int .i64 0, .slice none 0 0, .slice A 0 c, .slice B 0 c'] 88))
 go_enter Tryz.func117, Tryz.ntmps117
 go_wp2_with fail
 (with_reducible refine (HZ.out _).mono ?_)
 rintro e w1 ⟨rfl, o1⟩
 have OA := Lib.hid (O0.out.trans o1 (by simp))
 have BA := Lib.hid (BI.out.only o1 (by simp))
 obtain ⟨k0, k1, k2, k3, k4, k5, k6, k7, k8, k9, k10⟩ := BA.out.elevenH
 clear o1
 go_wp2_with fail
 go_ret
 exact ⟨rfl, OA.out⟩
theorem rone_var_no (A B : Option Addr) (c c' : Nat) (n : Int) (L : Int) (w : World) (h0 : 0 ≤ n) (h1 : ¬ n < L) : Calls Tryz.prog 117 #[.agg #[.int .i64 2, .int .i64 n, .int .i64 0, .int .i64 0, .complex .f64 0 0, .string ⟨#[]⟩, .int .i64 0, .int .i64 0, .slice none 0 0, .slice A 0 c, .slice B 0 c'], .int .i64 L] w fun e w' => e = .returned (.bool false) ∧ Only [] w w' := by
 have rs := store_com
 have HZ := Lib.hid (fun w => rsame_yes w)
 have BI := Lib.hid (Bk.made w 88 #[.int .i64 2, .int .i64 n, .int .i64 0, .int .i64 0, .complex .f64 0 0, .string ⟨#[]⟩, .int .i64 0, .int .i64 0, .slice none 0 0, .slice A 0 c, .slice B 0 c'])
 have O0 := Lib.hid ((Only.refl [] w).alloc (.cells #[.int .i64 2, .int .i64 n, .int .i64 0, .int .i64 0, .complex .f64 0 0, .string ⟨#[]⟩, .int .i64 0, .int .i64 0, .slice none 0 0, .slice A 0 c, .slice B 0 c'] 88))
 go_enter Tryz.func117, Tryz.ntmps117
 go_wp2_with fail
 (with_reducible refine (HZ.out _).mono ?_)
 rintro e w1 ⟨rfl, o1⟩
 have OA := Lib.hid (O0.out.trans o1 (by simp))
 have BA := Lib.hid (BI.out.only o1 (by simp))
 obtain ⟨k0, k1, k2, k3, k4, k5, k6, k7, k8, k9, k10⟩ := BA.out.elevenH
 clear o1
 go_wp2_with fail
 go_ret
 exact ⟨rfl, OA.out⟩
theorem rone_term_yes (A B : Option Addr) (c c' : Nat) (t : T) (A9 : Option Addr) (m9 z9 : Nat) (F : Nat → Prop) (L : Int) (w : World) (hg : t.Good) (hv : TV w F t (.slice A9 m9 z9)) (h8 : t.k < 8) (hc : chk t = 0) : Calls Tryz.prog 117 #[.agg #[.int .i64 3, .int .i64 0, .int .i64 t.k, .int .i64 t.n, .complex .f64 t.x t.y, .string t.S, .int .i64 t.a, .int .i64 t.b, .slice A9 m9 z9, .slice A 0 c, .slice B 0 c'], .int .i64 L] w fun e w' => e = .returned (.bool true) ∧ Only [] w w' := by
 have rs := store_com
 have HZ := Lib.hid (fun w => rsame_no t.k t.n t.x t.y t.S t.a t.b A9 m9 z9 w (good_k0 hg))
 have HC := Lib.hid (fun w1 (o1 : Only [] w w1) => rcheck_any t hg (.slice A9 m9 z9) F w1 (hv.same o1))
 rw [hc] at HC
 clear hg hv hc
 have BI := Lib.hid (Bk.made w 88 #[.int .i64 3, .int .i64 0, .int .i64 t.k, .int .i64 t.n, .complex .f64 t.x t.y, .string t.S, .int .i64 t.a, .int .i64 t.b, .slice A9 m9 z9, .slice A 0 c, .slice B 0 c'])
 have O0 := Lib.hid ((Only.refl [] w).alloc (.cells #[.int .i64 3, .int .i64 0, .int .i64 t.k, .int .i64 t.n, .complex .f64 t.x t.y, .string t.S, .int .i64 t.a, .int .i64 t.b, .slice A9 m9 z9, .slice A 0 c, .slice B 0 c'] 88))
 go_enter Tryz.func117, Tryz.ntmps117
 go_wp2_with fail
 (with_reducible refine (HZ.out _).mono ?_)
 rintro e w1 ⟨rfl, o1⟩
 have OA := Lib.hid (O0.out.trans o1 (by simp))
 have BA := Lib.hid (BI.out.only o1 (by simp))
 obtain ⟨k0, k1, k2, k3, k4, k5, k6, k7, k8, k9, k10⟩ := BA.out.elevenH
 clear o1
 go_wp2_with fail
 (with_reducible refine (HC.out _ OA.out).mono ?_)
 rintro e w3 ⟨rfl, o3⟩
 have O3 := Lib.hid (OA.out.trans o3 (by simp))
 have BB := Lib.hid (BA.out.only o3 (by simp))
 obtain ⟨l0, l1, l2, l3, l4, l5, l6, l7, l8, l9, l10⟩ := BB.out.elevenH
 clear o3 k0 k1 k2 k3 k4 k5 k6 k7 k8 k9 k10
 go_wp2_with fail
 go_ret
 exact ⟨rfl, O3.out⟩
theorem rone_term_no (A B : Option Addr) (c c' : Nat) (t : T) (A9 : Option Addr) (m9 z9 : Nat) (F : Nat → Prop) (z : Int) (L : Int) (w : World) (hg : t.Good) (hv : TV w F t (.slice A9 m9 z9)) (hz : chk t = z) (hc : z ≠ 0) : Calls Tryz.prog 117 #[.agg #[.int .i64 3, .int .i64 0, .int .i64 t.k, .int .i64 t.n, .complex .f64 t.x t.y, .string t.S, .int .i64 t.a, .int .i64 t.b, .slice A9 m9 z9, .slice A 0 c, .slice B 0 c'], .int .i64 L] w fun e w' => e = .returned (.bool false) ∧ Only [] w w' := by
 have rs := store_com
 have HZ := Lib.hid (fun w => rsame_no t.k t.n t.x t.y t.S t.a t.b A9 m9 z9 w (good_k0 hg))
 have HC := Lib.hid (fun w1 (o1 : Only [] w w1) => rcheck_any t hg (.slice A9 m9 z9) F w1 (hv.same o1))
 rw [hz] at HC
 have hc1 : (z == 0) = false := by simpa using hc
 clear hg hv hc hz
 have BI := Lib.hid (Bk.made w 88 #[.int .i64 3, .int .i64 0, .int .i64 t.k, .int .i64 t.n, .complex .f64 t.x t.y, .string t.S, .int .i64 t.a, .int .i64 t.b, .slice A9 m9 z9, .slice A 0 c, .slice B 0 c'])
 have O0 := Lib.hid ((Only.refl [] w).alloc (.cells #[.int .i64 3, .int .i64 0, .int .i64 t.k, .int .i64 t.n, .complex .f64 t.x t.y, .string t.S, .int .i64 t.a, .int .i64 t.b, .slice A9 m9 z9, .slice A 0 c, .slice B 0 c'] 88))
 go_enter Tryz.func117, Tryz.ntmps117
 go_wp2_with fail
 (with_reducible refine (HZ.out _).mono ?_)
 rintro e w1 ⟨rfl, o1⟩
 have OA := Lib.hid (O0.out.trans o1 (by simp))
 have BA := Lib.hid (BI.out.only o1 (by simp))
 obtain ⟨k0, k1, k2, k3, k4, k5, k6, k7, k8, k9, k10⟩ := BA.out.elevenH
 clear o1
 go_wp2_with fail
 (with_reducible refine (HC.out _ OA.out).mono ?_)
 rintro e w3 ⟨rfl, o3⟩
 have O3 := Lib.hid (OA.out.trans o3 (by simp))
 have BB := Lib.hid (BA.out.only o3 (by simp))
 obtain ⟨l0, l1, l2, l3, l4, l5, l6, l7, l8, l9, l10⟩ := BB.out.elevenH
 clear o3 k0 k1 k2 k3 k4 k5 k6 k7 k8 k9 k10
 go_wp2_with fail
 go_ret
 exact ⟨rfl, O3.out⟩
theorem rone_term_tup (A B : Option Addr) (c c' : Nat) (t : T) (A9 : Option Addr) (m9 z9 : Nat) (F : Nat → Prop) (L : Int) (w : World) (hg : t.Good) (hv : TV w F t (.slice A9 m9 z9)) (h8 : ¬ t.k < 8) (hc : chk t = 0) : Calls Tryz.prog 117 #[.agg #[.int .i64 3, .int .i64 0, .int .i64 t.k, .int .i64 t.n, .complex .f64 t.x t.y, .string t.S, .int .i64 t.a, .int .i64 t.b, .slice A9 m9 z9, .slice A 0 c, .slice B 0 c'], .int .i64 L] w fun e w' => e = .returned (.bool false) ∧ Only [] w w' := by
 have rs := store_com
 have HZ := Lib.hid (fun w => rsame_no t.k t.n t.x t.y t.S t.a t.b A9 m9 z9 w (good_k0 hg))
 have HC := Lib.hid (fun w1 (o1 : Only [] w w1) => rcheck_any t hg (.slice A9 m9 z9) F w1 (hv.same o1))
 rw [hc] at HC
 clear hg hv hc
 have BI := Lib.hid (Bk.made w 88 #[.int .i64 3, .int .i64 0, .int .i64 t.k, .int .i64 t.n, .complex .f64 t.x t.y, .string t.S, .int .i64 t.a, .int .i64 t.b, .slice A9 m9 z9, .slice A 0 c, .slice B 0 c'])
 have O0 := Lib.hid ((Only.refl [] w).alloc (.cells #[.int .i64 3, .int .i64 0, .int .i64 t.k, .int .i64 t.n, .complex .f64 t.x t.y, .string t.S, .int .i64 t.a, .int .i64 t.b, .slice A9 m9 z9, .slice A 0 c, .slice B 0 c'] 88))
 go_enter Tryz.func117, Tryz.ntmps117
 go_wp2_with fail
 (with_reducible refine (HZ.out _).mono ?_)
 rintro e w1 ⟨rfl, o1⟩
 have OA := Lib.hid (O0.out.trans o1 (by simp))
 have BA := Lib.hid (BI.out.only o1 (by simp))
 obtain ⟨k0, k1, k2, k3, k4, k5, k6, k7, k8, k9, k10⟩ := BA.out.elevenH
 clear o1
 go_wp2_with fail
 (with_reducible refine (HC.out _ OA.out).mono ?_)
 rintro e w3 ⟨rfl, o3⟩
 have O3 := Lib.hid (OA.out.trans o3 (by simp))
 have BB := Lib.hid (BA.out.only o3 (by simp))
 obtain ⟨l0, l1, l2, l3, l4, l5, l6, l7, l8, l9, l10⟩ := BB.out.elevenH
 clear o3 k0 k1 k2 k3 k4 k5 k6 k7 k8 k9 k10
 go_wp2_with fail
 go_ret
 exact ⟨rfl, O3.out⟩
theorem rone_kind_yes (A B : Option Addr) (c c' : Nat) (n : Int) (L : Int) (w : World) (h : 1 ≤ n ∧ n ≤ 9) : Calls Tryz.prog 117 #[.agg #[.int .i64 4, .int .i64 n, .int .i64 0, .int .i64 0, .complex .f64 0 0, .string ⟨#[]⟩, .int .i64 0, .int .i64 0, .slice none 0 0, .slice A 0 c, .slice B 0 c'], .int .i64 L] w fun e w' => e = .returned (.bool true) ∧ Only [] w w' := by
 have rs := store_com
 have HZ := Lib.hid (fun w => rsame_yes w)
 obtain ⟨h0, h1⟩ := h
 have BI := Lib.hid (Bk.made w 88 #[.int .i64 4, .int .i64 n, .int .i64 0, .int .i64 0, .complex .f64 0 0, .string ⟨#[]⟩, .int .i64 0, .int .i64 0, .slice none 0 0, .slice A 0 c, .slice B 0 c'])
 have O0 := Lib.hid ((Only.refl [] w).alloc (.cells #[.int .i64 4, .int .i64 n, .int .i64 0, .int .i64 0, .complex .f64 0 0, .string ⟨#[]⟩, .int .i64 0, .int .i64 0, .slice none 0 0, .slice A 0 c, .slice B 0 c'] 88))
 go_enter Tryz.func117, Tryz.ntmps117
 go_wp2_with fail
 (with_reducible refine (HZ.out _).mono ?_)
 rintro e w1 ⟨rfl, o1⟩
 have OA := Lib.hid (O0.out.trans o1 (by simp))
 have BA := Lib.hid (BI.out.only o1 (by simp))
 obtain ⟨k0, k1, k2, k3, k4, k5, k6, k7, k8, k9, k10⟩ := BA.out.elevenH
 clear o1
 go_wp2_with fail
 go_ret
 exact ⟨rfl, OA.out⟩
theorem rone_kind_lo (A B : Option Addr) (c c' : Nat) (n : Int) (L : Int) (w : World) (h0 : ¬ 1 ≤ n) : Calls Tryz.prog 117 #[.agg #[.int .i64 4, .int .i64 n, .int .i64 0, .int .i64 0, .complex .f64 0 0, .string ⟨#[]⟩, .int .i64 0, .int .i64 0, .slice none 0 0, .slice A 0 c, .slice B 0 c'], .int .i64 L] w fun e w' => e = .returned (.bool false) ∧ Only [] w w' := by
 have rs := store_com
 have HZ := Lib.hid (fun w => rsame_yes w)
 have h0 : n < 1 := by omega
 have BI := Lib.hid (Bk.made w 88 #[.int .i64 4, .int .i64 n, .int .i64 0, .int .i64 0, .complex .f64 0 0, .string ⟨#[]⟩, .int .i64 0, .int .i64 0, .slice none 0 0, .slice A 0 c, .slice B 0 c'])
 have O0 := Lib.hid ((Only.refl [] w).alloc (.cells #[.int .i64 4, .int .i64 n, .int .i64 0, .int .i64 0, .complex .f64 0 0, .string ⟨#[]⟩, .int .i64 0, .int .i64 0, .slice none 0 0, .slice A 0 c, .slice B 0 c'] 88))
 go_enter Tryz.func117, Tryz.ntmps117
 go_wp2_with fail
 (with_reducible refine (HZ.out _).mono ?_)
 rintro e w1 ⟨rfl, o1⟩
 have OA := Lib.hid (O0.out.trans o1 (by simp))
 have BA := Lib.hid (BI.out.only o1 (by simp))
 obtain ⟨k0, k1, k2, k3, k4, k5, k6, k7, k8, k9, k10⟩ := BA.out.elevenH
 clear o1
 go_wp2_with fail
 go_ret
 exact ⟨rfl, OA.out⟩
theorem rone_kind_hi (A B : Option Addr) (c c' : Nat) (n : Int) (L : Int) (w : World) (h0 : 1 ≤ n) (h1 : ¬ n ≤ 9) : Calls Tryz.prog 117 #[.agg #[.int .i64 4, .int .i64 n, .int .i64 0, .int .i64 0, .complex .f64 0 0, .string ⟨#[]⟩, .int .i64 0, .int .i64 0, .slice none 0 0, .slice A 0 c, .slice B 0 c'], .int .i64 L] w fun e w' => e = .returned (.bool false) ∧ Only [] w w' := by
 have rs := store_com
 have HZ := Lib.hid (fun w => rsame_yes w)
 have BI := Lib.hid (Bk.made w 88 #[.int .i64 4, .int .i64 n, .int .i64 0, .int .i64 0, .complex .f64 0 0, .string ⟨#[]⟩, .int .i64 0, .int .i64 0, .slice none 0 0, .slice A 0 c, .slice B 0 c'])
 have O0 := Lib.hid ((Only.refl [] w).alloc (.cells #[.int .i64 4, .int .i64 n, .int .i64 0, .int .i64 0, .complex .f64 0 0, .string ⟨#[]⟩, .int .i64 0, .int .i64 0, .slice none 0 0, .slice A 0 c, .slice B 0 c'] 88))
 go_enter Tryz.func117, Tryz.ntmps117
 go_wp2_with fail
 (with_reducible refine (HZ.out _).mono ?_)
 rintro e w1 ⟨rfl, o1⟩
 have OA := Lib.hid (O0.out.trans o1 (by simp))
 have BA := Lib.hid (BI.out.only o1 (by simp))
 obtain ⟨k0, k1, k2, k3, k4, k5, k6, k7, k8, k9, k10⟩ := BA.out.elevenH
 clear o1
 go_wp2_with fail
 go_ret
 exact ⟨rfl, OA.out⟩
theorem rone_tup (A B : Option Addr) (c c' : Nat) (m : Nat) (L : Int) (w : World)  : Calls Tryz.prog 117 #[.agg #[.int .i64 5, .int .i64 0, .int .i64 0, .int .i64 0, .complex .f64 0 0, .string ⟨#[]⟩, .int .i64 0, .int .i64 0, .slice none 0 0, .slice A m c, .slice B 0 c'], .int .i64 L] w fun e w' => e = .returned (.bool true) ∧ Only [] w w' := by
 have rs := store_com
 have HZ := Lib.hid (fun w => rsame_yes w)
 have BI := Lib.hid (Bk.made w 88 #[.int .i64 5, .int .i64 0, .int .i64 0, .int .i64 0, .complex .f64 0 0, .string ⟨#[]⟩, .int .i64 0, .int .i64 0, .slice none 0 0, .slice A m c, .slice B 0 c'])
 have O0 := Lib.hid ((Only.refl [] w).alloc (.cells #[.int .i64 5, .int .i64 0, .int .i64 0, .int .i64 0, .complex .f64 0 0, .string ⟨#[]⟩, .int .i64 0, .int .i64 0, .slice none 0 0, .slice A m c, .slice B 0 c'] 88))
 go_enter Tryz.func117, Tryz.ntmps117
 go_wp2_with fail
 (with_reducible refine (HZ.out _).mono ?_)
 rintro e w1 ⟨rfl, o1⟩
 have OA := Lib.hid (O0.out.trans o1 (by simp))
 have BA := Lib.hid (BI.out.only o1 (by simp))
 obtain ⟨k0, k1, k2, k3, k4, k5, k6, k7, k8, k9, k10⟩ := BA.out.elevenH
 clear o1
 go_wp2_with fail
 go_ret
 exact ⟨rfl, OA.out⟩
theorem rone_list (A B : Option Addr) (c c' : Nat) (m m' : Nat) (L : Int) (w : World) (h : m' ≤ 1) : Calls Tryz.prog 117 #[.agg #[.int .i64 6, .int .i64 0, .int .i64 0, .int .i64 0, .complex .f64 0 0, .string ⟨#[]⟩, .int .i64 0, .int .i64 0, .slice none 0 0, .slice A m c, .slice B m' c'], .int .i64 L] w fun e w' => e = .returned (.bool true) ∧ Only [] w w' := by
 have rs := store_com
 have HZ := Lib.hid (fun w => rsame_yes w)
 have p1 : (m' : Int) ≤ 1 := by omega
 clear h
 have BI := Lib.hid (Bk.made w 88 #[.int .i64 6, .int .i64 0, .int .i64 0, .int .i64 0, .complex .f64 0 0, .string ⟨#[]⟩, .int .i64 0, .int .i64 0, .slice none 0 0, .slice A m c, .slice B m' c'])
 have O0 := Lib.hid ((Only.refl [] w).alloc (.cells #[.int .i64 6, .int .i64 0, .int .i64 0, .int .i64 0, .complex .f64 0 0, .string ⟨#[]⟩, .int .i64 0, .int .i64 0, .slice none 0 0, .slice A m c, .slice B m' c'] 88))
 go_enter Tryz.func117, Tryz.ntmps117
 go_wp2_with fail
 (with_reducible refine (HZ.out _).mono ?_)
 rintro e w1 ⟨rfl, o1⟩
 have OA := Lib.hid (O0.out.trans o1 (by simp))
 have BA := Lib.hid (BI.out.only o1 (by simp))
 obtain ⟨k0, k1, k2, k3, k4, k5, k6, k7, k8, k9, k10⟩ := BA.out.elevenH
 clear o1
 go_wp2_with fail
 go_ret
 exact ⟨rfl, OA.out⟩
def okOne (L : Int) : QT → Bool
 | .zero => false | .any => true | .var n => decide (0 ≤ n) && decide (n < L) | .term t => decide (t.k ≠ 8) && decide (t.k ≠ 9) && decide (chk t = 0) | .kind n => decide (1 ≤ n) && decide (n ≤ 9) | .seq _ _ _ => true
theorem good_k89 {t : T} (h : t.Good) : t.k < 8 ∨ t.k = 8 ∨ t.k = 9 := by
 cases t with
 | tup k l =>
  have := h.1
  simp only [T.k]
  omega
 | _ => simp [T.k]
theorem rone_all (p : QT) (hg : p.Good) (L : Int) (st sl sr : Value) (F : Nat → Prop) (r : Bool) (w : World) (ht : TV w F p.tm st) (hL : QL w F p.l sl) (hR : QL w F p.r sr) (hr : okOne L p = r) :
 Calls Tryz.prog 117 #[.agg (qcs p.k p.n p.tm st sl sr), .int .i64 L] w fun e w' => e = .returned (.bool r) ∧ Only [] w w' := by
 obtain ⟨A, c, rfl⟩ := hL.slice
 obtain ⟨B, c', rfl⟩ := hR.slice
 subst hr
 cases p with
 | zero => exact hg.elim
 | any =>
  obtain rfl := (TV.leaf (by simp [QT.tm])).1 ht
  exact rone_any A B c c' L w
 | var n =>
  obtain rfl := (TV.leaf (by simp [QT.tm])).1 ht
  have h0 : 0 ≤ n := hg
  by_cases h1 : n < L
  ·rw [show okOne L (.var n) = true by simp [okOne, h0, h1]]
   exact rone_var_yes A B c c' n L w h0 h1
  ·rw [show okOne L (.var n) = false by simp only [okOne]; rw [decide_eq_false h1, Bool.and_false]]
   exact rone_var_no A B c c' n L w h0 h1
 | term t =>
  obtain ⟨A9, m9, z9, rfl⟩ := ht.slice
  by_cases hc : chk t = 0
  ·rcases good_k89 hg with h8 | h8
   ·rw [show okOne L (.term t) = true by simp only [okOne]; rw [decide_eq_true hc, decide_eq_true (p := t.k ≠ 8) (by omega), decide_eq_true (p := t.k ≠ 9) (by omega)]; rfl]
    exact rone_term_yes A B c c' t A9 m9 z9 F L w hg ht h8 hc
   ·rw [show okOne L (.term t) = false by simp only [okOne]; rcases h8 with h8 | h8 <;> simp [h8]]
    exact rone_term_tup A B c c' t A9 m9 z9 F L w hg ht (by omega) hc
  ·rw [show okOne L (.term t) = false by simp only [okOne]; rw [decide_eq_false hc, Bool.and_false]]
   exact rone_term_no A B c c' t A9 m9 z9 F _ L w hg ht rfl hc
 | kind n =>
  obtain rfl := (TV.leaf (by simp [QT.tm])).1 ht
  by_cases h0 : 1 ≤ n
  ·by_cases h1 : n ≤ 9
   ·rw [show okOne L (.kind n) = true by simp [okOne, h0, h1]]
    exact rone_kind_yes A B c c' n L w ⟨h0, h1⟩
   ·rw [show okOne L (.kind n) = false by simp only [okOne]; rw [decide_eq_false h1, Bool.and_false]]
    exact rone_kind_hi A B c c' n L w h0 h1
  ·rw [show okOne L (.kind n) = false by simp only [okOne]; rw [decide_eq_false h0, Bool.false_and]]
   exact rone_kind_lo A B c c' n L w h0
 | seq k l rr =>
  obtain rfl := (TV.leaf (by simp [QT.tm])).1 ht
  obtain ⟨hkk, -, h1, -, -⟩ := hg
  rcases hkk with ⟨rfl, rfl⟩ | rfl
  ·exact rone_tup A B c c' l.length L w
  ·exact rone_list A B c c' l.length rr.length L w h1
end Go.Proofs.YtcdefnbehlcgeaaGreatDoor
