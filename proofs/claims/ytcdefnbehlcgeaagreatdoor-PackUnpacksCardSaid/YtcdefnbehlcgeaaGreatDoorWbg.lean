/- The document: May, by the operation. -/
import Derived.Test.YtcdefnbehlcgeaaGreatDoorWbb
set_option maxHeartbeats 8000000
set_option maxRecDepth 20000
set_option linter.unusedVariables false
namespace Go.Proofs.YtcdefnbehlcgeaaGreatDoor
open Go.RowKit
theorem mk3 (w : World) (t1 t2 t3 : TypeId) (c1 c2 c3 : Array Value) : Hid (Bk (((w.alloc (.cells c1 t1)).alloc (.cells c2 t2)).alloc (.cells c3 t3)) w.heap.size t1 c1) ∧ Hid (Bk (((w.alloc (.cells c1 t1)).alloc (.cells c2 t2)).alloc (.cells c3 t3)) (w.heap.size + 1) t2 c2) ∧ Hid (Bk (((w.alloc (.cells c1 t1)).alloc (.cells c2 t2)).alloc (.cells c3 t3)) (w.heap.size + 1 + 1) t3 c3) ∧ Hid (Only [] w (((w.alloc (.cells c1 t1)).alloc (.cells c2 t2)).alloc (.cells c3 t3))) :=
 ⟨Lib.hid (((Bk.made w t1 c1).alloc _).alloc _), Lib.hid ((Bk.madeAt (w := w.alloc (.cells c1 t1)) (t := t2) (cs := c2) (b := w.heap.size + 1) (by simp)).alloc _), Lib.hid (Bk.madeAt (by simp)), Lib.hid ((((Only.refl [] w).alloc _).alloc _).alloc _)⟩
theorem rmay_push (nm : ByteArray) (FA : Option Addr) (nf cf : Nat) (fn : ByteArray) (pr L : Int) (S0 : Option Addr) (s1 s2 : Nat) (A : Option Addr) (c : Nat) (t : T) (A9 : Option Addr) (m9 z9 : Nat) (F : Nat → Prop) (r : Bool) (w : World) (hg : t.Good) (hv : TV w F t (.slice A9 m9 z9)) (hr : decide (chk t = 0) = r) : Calls Tryz.prog 34 #[.agg #[.string nm, .slice FA nf cf], .agg #[.string fn, .int .i64 pr, .int .i64 L, .slice S0 s1 s2], .agg #[.int .i64 1, .int .i64 0, .int .i64 0, .int .i64 t.k, .int .i64 t.n, .complex .f64 t.x t.y, .string t.S, .int .i64 t.a, .int .i64 t.b, .slice A9 m9 z9, .slice A 0 c]] w fun e w' => e = .returned (.bool r) ∧ Only [] w w' := by
 have rs := store_com
 obtain ⟨z, hz⟩ : ∃ z, chk t = z := ⟨_, rfl⟩
 have HC := Lib.hid (fun w1 (o1 : Only [] w w1) => rcheck_any t hg (.slice A9 m9 z9) F w1 (hv.same o1))
 rw [hz] at HC hr
 have HR := Lib.hid (show (z == 0) = r from hr)
 clear hg hv hr hz
 obtain ⟨BM, BF, BI, O0⟩ := mk3 w 24 45 55 #[.string nm, .slice FA nf cf] #[.string fn, .int .i64 pr, .int .i64 L, .slice S0 s1 s2] #[.int .i64 1, .int .i64 0, .int .i64 0, .int .i64 t.k, .int .i64 t.n, .complex .f64 t.x t.y, .string t.S, .int .i64 t.a, .int .i64 t.b, .slice A9 m9 z9, .slice A 0 c]
 go_enter Tryz.func34, Tryz.ntmps34
 go_wp2_with fail
 (with_reducible refine (HC.out _ O0.out).mono ?_)
 rintro e w1 ⟨rfl, o1⟩
 have OA := Lib.hid (O0.out.trans o1 (by simp))
 clear o1
 go_wp2_with fail
 go_ret
 exact ⟨ret_bool HR.out, OA.out⟩
theorem rmay_dup (nm : ByteArray) (FA : Option Addr) (nf cf : Nat) (fn : ByteArray) (pr L : Int) (S0 : Option Addr) (s1 s2 : Nat) (A : Option Addr) (c : Nat) (a : Int) (r : Bool) (w : World) (ha : 0 ≤ a) (hr : decide (a ≤ 254) = r) : Calls Tryz.prog 34 #[.agg #[.string nm, .slice FA nf cf], .agg #[.string fn, .int .i64 pr, .int .i64 L, .slice S0 s1 s2], .agg #[.int .i64 3, .int .i64 a, .int .i64 0, .int .i64 0, .int .i64 0, .complex .f64 0 0, .string ⟨#[]⟩, .int .i64 0, .int .i64 0, .slice none 0 0, .slice A 0 c]] w fun e w' => e = .returned (.bool r) ∧ Only [] w w' := by
 have rs := store_com
 have HZ := Lib.hid (fun w => rzero_yes w)
 have HR := Lib.hid hr
 clear hr
 obtain ⟨BM, BF, BI, O0⟩ := mk3 w 24 45 55 #[.string nm, .slice FA nf cf] #[.string fn, .int .i64 pr, .int .i64 L, .slice S0 s1 s2] #[.int .i64 3, .int .i64 a, .int .i64 0, .int .i64 0, .int .i64 0, .complex .f64 0 0, .string ⟨#[]⟩, .int .i64 0, .int .i64 0, .slice none 0 0, .slice A 0 c]
 go_enter Tryz.func34, Tryz.ntmps34
 go_wp2_with fail
 (with_reducible refine (HZ.out _).mono ?_)
 rintro e w1 ⟨rfl, o1⟩
 have OA := Lib.hid (O0.out.trans o1 (by simp))
 have BA := Lib.hid (BI.out.only o1 (by simp))
 have FA1 := Lib.hid (BF.out.only o1 (by simp))
 have MA := Lib.hid (BM.out.only o1 (by simp))
 obtain ⟨k0, k1, k2, k3, k4, k5, k6, k7, k8, k9, k10⟩ := BA.out.elevenH
 have f0 := FA1.out.cell0 (i := 0) rfl
 have f1 := FA1.out.cell0 (i := 1) rfl
 have f2 := FA1.out.cell0 (i := 2) rfl
 have f3 := FA1.out.cell0 (i := 3) rfl
 have m0 := MA.out.cell0 (i := 0) rfl
 have m1 := MA.out.cell0 (i := 1) rfl
 clear o1
 go_wp2_with fail
 go_ret
 exact ⟨ret_bool HR.out, OA.out⟩
theorem rmay_loc4 (nm : ByteArray) (FA : Option Addr) (nf cf : Nat) (fn : ByteArray) (pr L : Int) (S0 : Option Addr) (s1 s2 : Nat) (A : Option Addr) (c : Nat) (a : Int) (r : Bool) (w : World) (ha : 0 ≤ a) (hr : decide (a < L) = r) : Calls Tryz.prog 34 #[.agg #[.string nm, .slice FA nf cf], .agg #[.string fn, .int .i64 pr, .int .i64 L, .slice S0 s1 s2], .agg #[.int .i64 4, .int .i64 a, .int .i64 0, .int .i64 0, .int .i64 0, .complex .f64 0 0, .string ⟨#[]⟩, .int .i64 0, .int .i64 0, .slice none 0 0, .slice A 0 c]] w fun e w' => e = .returned (.bool r) ∧ Only [] w w' := by
 have rs := store_com
 have HZ := Lib.hid (fun w => rzero_yes w)
 have HR := Lib.hid hr
 clear hr
 obtain ⟨BM, BF, BI, O0⟩ := mk3 w 24 45 55 #[.string nm, .slice FA nf cf] #[.string fn, .int .i64 pr, .int .i64 L, .slice S0 s1 s2] #[.int .i64 4, .int .i64 a, .int .i64 0, .int .i64 0, .int .i64 0, .complex .f64 0 0, .string ⟨#[]⟩, .int .i64 0, .int .i64 0, .slice none 0 0, .slice A 0 c]
 go_enter Tryz.func34, Tryz.ntmps34
 go_wp2_with fail
 (with_reducible refine (HZ.out _).mono ?_)
 rintro e w1 ⟨rfl, o1⟩
 have OA := Lib.hid (O0.out.trans o1 (by simp))
 have BA := Lib.hid (BI.out.only o1 (by simp))
 have FA1 := Lib.hid (BF.out.only o1 (by simp))
 have MA := Lib.hid (BM.out.only o1 (by simp))
 obtain ⟨k0, k1, k2, k3, k4, k5, k6, k7, k8, k9, k10⟩ := BA.out.elevenH
 have f0 := FA1.out.cell0 (i := 0) rfl
 have f1 := FA1.out.cell0 (i := 1) rfl
 have f2 := FA1.out.cell0 (i := 2) rfl
 have f3 := FA1.out.cell0 (i := 3) rfl
 have m0 := MA.out.cell0 (i := 0) rfl
 have m1 := MA.out.cell0 (i := 1) rfl
 clear o1
 go_wp2_with fail
 go_ret
 exact ⟨ret_bool HR.out, OA.out⟩
theorem rmay_loc5 (nm : ByteArray) (FA : Option Addr) (nf cf : Nat) (fn : ByteArray) (pr L : Int) (S0 : Option Addr) (s1 s2 : Nat) (A : Option Addr) (c : Nat) (a : Int) (r : Bool) (w : World) (ha : 0 ≤ a) (hr : decide (a < L) = r) : Calls Tryz.prog 34 #[.agg #[.string nm, .slice FA nf cf], .agg #[.string fn, .int .i64 pr, .int .i64 L, .slice S0 s1 s2], .agg #[.int .i64 5, .int .i64 a, .int .i64 0, .int .i64 0, .int .i64 0, .complex .f64 0 0, .string ⟨#[]⟩, .int .i64 0, .int .i64 0, .slice none 0 0, .slice A 0 c]] w fun e w' => e = .returned (.bool r) ∧ Only [] w w' := by
 have rs := store_com
 have HZ := Lib.hid (fun w => rzero_yes w)
 have HR := Lib.hid hr
 clear hr
 obtain ⟨BM, BF, BI, O0⟩ := mk3 w 24 45 55 #[.string nm, .slice FA nf cf] #[.string fn, .int .i64 pr, .int .i64 L, .slice S0 s1 s2] #[.int .i64 5, .int .i64 a, .int .i64 0, .int .i64 0, .int .i64 0, .complex .f64 0 0, .string ⟨#[]⟩, .int .i64 0, .int .i64 0, .slice none 0 0, .slice A 0 c]
 go_enter Tryz.func34, Tryz.ntmps34
 go_wp2_with fail
 (with_reducible refine (HZ.out _).mono ?_)
 rintro e w1 ⟨rfl, o1⟩
 have OA := Lib.hid (O0.out.trans o1 (by simp))
 have BA := Lib.hid (BI.out.only o1 (by simp))
 have FA1 := Lib.hid (BF.out.only o1 (by simp))
 have MA := Lib.hid (BM.out.only o1 (by simp))
 obtain ⟨k0, k1, k2, k3, k4, k5, k6, k7, k8, k9, k10⟩ := BA.out.elevenH
 have f0 := FA1.out.cell0 (i := 0) rfl
 have f1 := FA1.out.cell0 (i := 1) rfl
 have f2 := FA1.out.cell0 (i := 2) rfl
 have f3 := FA1.out.cell0 (i := 3) rfl
 have m0 := MA.out.cell0 (i := 0) rfl
 have m1 := MA.out.cell0 (i := 1) rfl
 clear o1
 go_wp2_with fail
 go_ret
 exact ⟨ret_bool HR.out, OA.out⟩
theorem rmay_kind_yes (nm : ByteArray) (FA : Option Addr) (nf cf : Nat) (fn : ByteArray) (pr L : Int) (S0 : Option Addr) (s1 s2 : Nat) (A : Option Addr) (c : Nat) (a : Int) (r : Bool) (w : World) (h1 : 1 ≤ a) (hr : decide (a ≤ 9) = r) : Calls Tryz.prog 34 #[.agg #[.string nm, .slice FA nf cf], .agg #[.string fn, .int .i64 pr, .int .i64 L, .slice S0 s1 s2], .agg #[.int .i64 17, .int .i64 a, .int .i64 0, .int .i64 0, .int .i64 0, .complex .f64 0 0, .string ⟨#[]⟩, .int .i64 0, .int .i64 0, .slice none 0 0, .slice A 0 c]] w fun e w' => e = .returned (.bool r) ∧ Only [] w w' := by
 have rs := store_com
 have HZ := Lib.hid (fun w => rzero_yes w)
 have HR := Lib.hid hr
 clear hr
 obtain ⟨BM, BF, BI, O0⟩ := mk3 w 24 45 55 #[.string nm, .slice FA nf cf] #[.string fn, .int .i64 pr, .int .i64 L, .slice S0 s1 s2] #[.int .i64 17, .int .i64 a, .int .i64 0, .int .i64 0, .int .i64 0, .complex .f64 0 0, .string ⟨#[]⟩, .int .i64 0, .int .i64 0, .slice none 0 0, .slice A 0 c]
 go_enter Tryz.func34, Tryz.ntmps34
 go_wp2_with fail
 (with_reducible refine (HZ.out _).mono ?_)
 rintro e w1 ⟨rfl, o1⟩
 have OA := Lib.hid (O0.out.trans o1 (by simp))
 have BA := Lib.hid (BI.out.only o1 (by simp))
 have FA1 := Lib.hid (BF.out.only o1 (by simp))
 have MA := Lib.hid (BM.out.only o1 (by simp))
 obtain ⟨k0, k1, k2, k3, k4, k5, k6, k7, k8, k9, k10⟩ := BA.out.elevenH
 have f0 := FA1.out.cell0 (i := 0) rfl
 have f1 := FA1.out.cell0 (i := 1) rfl
 have f2 := FA1.out.cell0 (i := 2) rfl
 have f3 := FA1.out.cell0 (i := 3) rfl
 have m0 := MA.out.cell0 (i := 0) rfl
 have m1 := MA.out.cell0 (i := 1) rfl
 clear o1
 go_wp2_with fail
 go_ret
 exact ⟨ret_bool HR.out, OA.out⟩
theorem rmay_kind_no (nm : ByteArray) (FA : Option Addr) (nf cf : Nat) (fn : ByteArray) (pr L : Int) (S0 : Option Addr) (s1 s2 : Nat) (A : Option Addr) (c : Nat) (a : Int) (r : Bool) (w : World) (h1 : ¬ 1 ≤ a) (hr : false = r) : Calls Tryz.prog 34 #[.agg #[.string nm, .slice FA nf cf], .agg #[.string fn, .int .i64 pr, .int .i64 L, .slice S0 s1 s2], .agg #[.int .i64 17, .int .i64 a, .int .i64 0, .int .i64 0, .int .i64 0, .complex .f64 0 0, .string ⟨#[]⟩, .int .i64 0, .int .i64 0, .slice none 0 0, .slice A 0 c]] w fun e w' => e = .returned (.bool r) ∧ Only [] w w' := by
 have rs := store_com
 have HZ := Lib.hid (fun w => rzero_yes w)
 have h1 : a < 1 := by omega
 have HR := Lib.hid hr
 clear hr
 obtain ⟨BM, BF, BI, O0⟩ := mk3 w 24 45 55 #[.string nm, .slice FA nf cf] #[.string fn, .int .i64 pr, .int .i64 L, .slice S0 s1 s2] #[.int .i64 17, .int .i64 a, .int .i64 0, .int .i64 0, .int .i64 0, .complex .f64 0 0, .string ⟨#[]⟩, .int .i64 0, .int .i64 0, .slice none 0 0, .slice A 0 c]
 go_enter Tryz.func34, Tryz.ntmps34
 go_wp2_with fail
 (with_reducible refine (HZ.out _).mono ?_)
 rintro e w1 ⟨rfl, o1⟩
 have OA := Lib.hid (O0.out.trans o1 (by simp))
 have BA := Lib.hid (BI.out.only o1 (by simp))
 have FA1 := Lib.hid (BF.out.only o1 (by simp))
 have MA := Lib.hid (BM.out.only o1 (by simp))
 obtain ⟨k0, k1, k2, k3, k4, k5, k6, k7, k8, k9, k10⟩ := BA.out.elevenH
 have f0 := FA1.out.cell0 (i := 0) rfl
 have f1 := FA1.out.cell0 (i := 1) rfl
 have f2 := FA1.out.cell0 (i := 2) rfl
 have f3 := FA1.out.cell0 (i := 3) rfl
 have m0 := MA.out.cell0 (i := 0) rfl
 have m1 := MA.out.cell0 (i := 1) rfl
 clear o1
 go_wp2_with fail
 go_ret
 exact ⟨ret_bool HR.out, OA.out⟩
theorem rmay_seq18 (nm : ByteArray) (FA : Option Addr) (nf cf : Nat) (fn : ByteArray) (pr L : Int) (S0 : Option Addr) (s1 s2 : Nat) (A : Option Addr) (c : Nat) (a : Int) (r : Bool) (w : World) (ha : 0 ≤ a) (hr : decide (a ≤ 255) = r) : Calls Tryz.prog 34 #[.agg #[.string nm, .slice FA nf cf], .agg #[.string fn, .int .i64 pr, .int .i64 L, .slice S0 s1 s2], .agg #[.int .i64 18, .int .i64 a, .int .i64 0, .int .i64 0, .int .i64 0, .complex .f64 0 0, .string ⟨#[]⟩, .int .i64 0, .int .i64 0, .slice none 0 0, .slice A 0 c]] w fun e w' => e = .returned (.bool r) ∧ Only [] w w' := by
 have rs := store_com
 have HZ := Lib.hid (fun w => rzero_yes w)
 have HR := Lib.hid hr
 clear hr
 obtain ⟨BM, BF, BI, O0⟩ := mk3 w 24 45 55 #[.string nm, .slice FA nf cf] #[.string fn, .int .i64 pr, .int .i64 L, .slice S0 s1 s2] #[.int .i64 18, .int .i64 a, .int .i64 0, .int .i64 0, .int .i64 0, .complex .f64 0 0, .string ⟨#[]⟩, .int .i64 0, .int .i64 0, .slice none 0 0, .slice A 0 c]
 go_enter Tryz.func34, Tryz.ntmps34
 go_wp2_with fail
 (with_reducible refine (HZ.out _).mono ?_)
 rintro e w1 ⟨rfl, o1⟩
 have OA := Lib.hid (O0.out.trans o1 (by simp))
 have BA := Lib.hid (BI.out.only o1 (by simp))
 have FA1 := Lib.hid (BF.out.only o1 (by simp))
 have MA := Lib.hid (BM.out.only o1 (by simp))
 obtain ⟨k0, k1, k2, k3, k4, k5, k6, k7, k8, k9, k10⟩ := BA.out.elevenH
 have f0 := FA1.out.cell0 (i := 0) rfl
 have f1 := FA1.out.cell0 (i := 1) rfl
 have f2 := FA1.out.cell0 (i := 2) rfl
 have f3 := FA1.out.cell0 (i := 3) rfl
 have m0 := MA.out.cell0 (i := 0) rfl
 have m1 := MA.out.cell0 (i := 1) rfl
 clear o1
 go_wp2_with fail
 go_ret
 exact ⟨ret_bool HR.out, OA.out⟩
theorem rmay_seq19 (nm : ByteArray) (FA : Option Addr) (nf cf : Nat) (fn : ByteArray) (pr L : Int) (S0 : Option Addr) (s1 s2 : Nat) (A : Option Addr) (c : Nat) (a : Int) (r : Bool) (w : World) (ha : 0 ≤ a) (hr : decide (a ≤ 255) = r) : Calls Tryz.prog 34 #[.agg #[.string nm, .slice FA nf cf], .agg #[.string fn, .int .i64 pr, .int .i64 L, .slice S0 s1 s2], .agg #[.int .i64 19, .int .i64 a, .int .i64 0, .int .i64 0, .int .i64 0, .complex .f64 0 0, .string ⟨#[]⟩, .int .i64 0, .int .i64 0, .slice none 0 0, .slice A 0 c]] w fun e w' => e = .returned (.bool r) ∧ Only [] w w' := by
 have rs := store_com
 have HZ := Lib.hid (fun w => rzero_yes w)
 have HR := Lib.hid hr
 clear hr
 obtain ⟨BM, BF, BI, O0⟩ := mk3 w 24 45 55 #[.string nm, .slice FA nf cf] #[.string fn, .int .i64 pr, .int .i64 L, .slice S0 s1 s2] #[.int .i64 19, .int .i64 a, .int .i64 0, .int .i64 0, .int .i64 0, .complex .f64 0 0, .string ⟨#[]⟩, .int .i64 0, .int .i64 0, .slice none 0 0, .slice A 0 c]
 go_enter Tryz.func34, Tryz.ntmps34
 go_wp2_with fail
 (with_reducible refine (HZ.out _).mono ?_)
 rintro e w1 ⟨rfl, o1⟩
 have OA := Lib.hid (O0.out.trans o1 (by simp))
 have BA := Lib.hid (BI.out.only o1 (by simp))
 have FA1 := Lib.hid (BF.out.only o1 (by simp))
 have MA := Lib.hid (BM.out.only o1 (by simp))
 obtain ⟨k0, k1, k2, k3, k4, k5, k6, k7, k8, k9, k10⟩ := BA.out.elevenH
 have f0 := FA1.out.cell0 (i := 0) rfl
 have f1 := FA1.out.cell0 (i := 1) rfl
 have f2 := FA1.out.cell0 (i := 2) rfl
 have f3 := FA1.out.cell0 (i := 3) rfl
 have m0 := MA.out.cell0 (i := 0) rfl
 have m1 := MA.out.cell0 (i := 1) rfl
 clear o1
 go_wp2_with fail
 go_ret
 exact ⟨ret_bool HR.out, OA.out⟩
theorem rmay_jump25 (nm : ByteArray) (FA : Option Addr) (nf cf : Nat) (fn : ByteArray) (pr L : Int) (S0 : Option Addr) (s1 s2 : Nat) (A : Option Addr) (c : Nat) (a : Int) (r : Bool) (w : World) (hr : true = r) : Calls Tryz.prog 34 #[.agg #[.string nm, .slice FA nf cf], .agg #[.string fn, .int .i64 pr, .int .i64 L, .slice S0 s1 s2], .agg #[.int .i64 25, .int .i64 a, .int .i64 0, .int .i64 0, .int .i64 0, .complex .f64 0 0, .string ⟨#[]⟩, .int .i64 0, .int .i64 0, .slice none 0 0, .slice A 0 c]] w fun e w' => e = .returned (.bool r) ∧ Only [] w w' := by
 have rs := store_com
 have HZ := Lib.hid (fun w => rzero_yes w)
 have HR := Lib.hid hr
 clear hr
 obtain ⟨BM, BF, BI, O0⟩ := mk3 w 24 45 55 #[.string nm, .slice FA nf cf] #[.string fn, .int .i64 pr, .int .i64 L, .slice S0 s1 s2] #[.int .i64 25, .int .i64 a, .int .i64 0, .int .i64 0, .int .i64 0, .complex .f64 0 0, .string ⟨#[]⟩, .int .i64 0, .int .i64 0, .slice none 0 0, .slice A 0 c]
 go_enter Tryz.func34, Tryz.ntmps34
 go_wp2_with fail
 (with_reducible refine (HZ.out _).mono ?_)
 rintro e w1 ⟨rfl, o1⟩
 have OA := Lib.hid (O0.out.trans o1 (by simp))
 have BA := Lib.hid (BI.out.only o1 (by simp))
 have FA1 := Lib.hid (BF.out.only o1 (by simp))
 have MA := Lib.hid (BM.out.only o1 (by simp))
 obtain ⟨k0, k1, k2, k3, k4, k5, k6, k7, k8, k9, k10⟩ := BA.out.elevenH
 have f0 := FA1.out.cell0 (i := 0) rfl
 have f1 := FA1.out.cell0 (i := 1) rfl
 have f2 := FA1.out.cell0 (i := 2) rfl
 have f3 := FA1.out.cell0 (i := 3) rfl
 have m0 := MA.out.cell0 (i := 0) rfl
 have m1 := MA.out.cell0 (i := 1) rfl
 clear o1
 go_wp2_with fail
 go_ret
 exact ⟨ret_bool HR.out, OA.out⟩
theorem rmay_jump26 (nm : ByteArray) (FA : Option Addr) (nf cf : Nat) (fn : ByteArray) (pr L : Int) (S0 : Option Addr) (s1 s2 : Nat) (A : Option Addr) (c : Nat) (a : Int) (r : Bool) (w : World) (hr : true = r) : Calls Tryz.prog 34 #[.agg #[.string nm, .slice FA nf cf], .agg #[.string fn, .int .i64 pr, .int .i64 L, .slice S0 s1 s2], .agg #[.int .i64 26, .int .i64 a, .int .i64 0, .int .i64 0, .int .i64 0, .complex .f64 0 0, .string ⟨#[]⟩, .int .i64 0, .int .i64 0, .slice none 0 0, .slice A 0 c]] w fun e w' => e = .returned (.bool r) ∧ Only [] w w' := by
 have rs := store_com
 have HZ := Lib.hid (fun w => rzero_yes w)
 have HR := Lib.hid hr
 clear hr
 obtain ⟨BM, BF, BI, O0⟩ := mk3 w 24 45 55 #[.string nm, .slice FA nf cf] #[.string fn, .int .i64 pr, .int .i64 L, .slice S0 s1 s2] #[.int .i64 26, .int .i64 a, .int .i64 0, .int .i64 0, .int .i64 0, .complex .f64 0 0, .string ⟨#[]⟩, .int .i64 0, .int .i64 0, .slice none 0 0, .slice A 0 c]
 go_enter Tryz.func34, Tryz.ntmps34
 go_wp2_with fail
 (with_reducible refine (HZ.out _).mono ?_)
 rintro e w1 ⟨rfl, o1⟩
 have OA := Lib.hid (O0.out.trans o1 (by simp))
 have BA := Lib.hid (BI.out.only o1 (by simp))
 have FA1 := Lib.hid (BF.out.only o1 (by simp))
 have MA := Lib.hid (BM.out.only o1 (by simp))
 obtain ⟨k0, k1, k2, k3, k4, k5, k6, k7, k8, k9, k10⟩ := BA.out.elevenH
 have f0 := FA1.out.cell0 (i := 0) rfl
 have f1 := FA1.out.cell0 (i := 1) rfl
 have f2 := FA1.out.cell0 (i := 2) rfl
 have f3 := FA1.out.cell0 (i := 3) rfl
 have m0 := MA.out.cell0 (i := 0) rfl
 have m1 := MA.out.cell0 (i := 1) rfl
 clear o1
 go_wp2_with fail
 go_ret
 exact ⟨ret_bool HR.out, OA.out⟩
theorem rmay_match (nm : ByteArray) (FA : Option Addr) (nf cf : Nat) (fn : ByteArray) (pr L : Int) (S0 : Option Addr) (s1 s2 : Nat) (A : Option Addr) (c : Nat) (a : Int) (m : Nat) (l : List Arm) (F : Nat → Prop) (r : Bool) (w : World) (hg : ∀ a ∈ l, a.Good) (hv : AL w F l (.slice A m c)) (hF : ∀ b, F b → b < w.heap.size) (hr : armsOk L l = r) : Calls Tryz.prog 34 #[.agg #[.string nm, .slice FA nf cf], .agg #[.string fn, .int .i64 pr, .int .i64 L, .slice S0 s1 s2], .agg #[.int .i64 27, .int .i64 a, .int .i64 0, .int .i64 0, .int .i64 0, .complex .f64 0 0, .string ⟨#[]⟩, .int .i64 0, .int .i64 0, .slice none 0 0, .slice A m c]] w fun e w' => e = .returned (.bool r) ∧ Only [] w w' := by
 have rs := store_com
 have HZ := Lib.hid (fun w => rzero_yes w)
 have HS := Lib.hid (fun w1 (o1 : Only [] w w1) => rarms_any fn pr L (.slice S0 s1 s2) l hg (.slice A m c) F r w1 (hv.same o1) (fun b hb => Nat.lt_of_lt_of_le (hF b hb) o1.size) hr)
 clear hg hv hF hr
 obtain ⟨BM, BF, BI, O0⟩ := mk3 w 24 45 55 #[.string nm, .slice FA nf cf] #[.string fn, .int .i64 pr, .int .i64 L, .slice S0 s1 s2] #[.int .i64 27, .int .i64 a, .int .i64 0, .int .i64 0, .int .i64 0, .complex .f64 0 0, .string ⟨#[]⟩, .int .i64 0, .int .i64 0, .slice none 0 0, .slice A m c]
 go_enter Tryz.func34, Tryz.ntmps34
 go_wp2_with fail
 (with_reducible refine (HZ.out _).mono ?_)
 rintro e w1 ⟨rfl, o1⟩
 have OA := Lib.hid (O0.out.trans o1 (by simp))
 have BA := Lib.hid (BI.out.only o1 (by simp))
 have FA1 := Lib.hid (BF.out.only o1 (by simp))
 have MA := Lib.hid (BM.out.only o1 (by simp))
 obtain ⟨k0, k1, k2, k3, k4, k5, k6, k7, k8, k9, k10⟩ := BA.out.elevenH
 have f0 := FA1.out.cell0 (i := 0) rfl
 have f1 := FA1.out.cell0 (i := 1) rfl
 have f2 := FA1.out.cell0 (i := 2) rfl
 have f3 := FA1.out.cell0 (i := 3) rfl
 have m0 := MA.out.cell0 (i := 0) rfl
 have m1 := MA.out.cell0 (i := 1) rfl
 clear o1
 go_wp2_with fail
 (with_reducible refine (HS.out _ OA.out).mono ?_)
 rintro e w2 ⟨rfl, o2⟩
 have O2 := Lib.hid (OA.out.trans o2 (by simp))
 clear o2
 go_wp2_with fail
 go_ret
 exact ⟨rfl, O2.out⟩
theorem rmay_recv_ok (nm : ByteArray) (FA : Option Addr) (nf cf : Nat) (fn : ByteArray) (pr L : Int) (S0 : Option Addr) (s1 s2 : Nat) (A : Option Addr) (c : Nat) (a b : Int) (m : Nat) (l : List Arm) (F : Nat → Prop) (r : Bool) (w : World) (h1 : ¬ b < -1) (h2 : ¬ 1048576 < b) (h3 : b ≠ -1) (hg : ∀ a ∈ l, a.Good) (hv : AL w F l (.slice A m c)) (hF : ∀ b, F b → b < w.heap.size) (hr : armsOk L l = r) : Calls Tryz.prog 34 #[.agg #[.string nm, .slice FA nf cf], .agg #[.string fn, .int .i64 pr, .int .i64 L, .slice S0 s1 s2], .agg #[.int .i64 33, .int .i64 a, .int .i64 b, .int .i64 0, .int .i64 0, .complex .f64 0 0, .string ⟨#[]⟩, .int .i64 0, .int .i64 0, .slice none 0 0, .slice A m c]] w fun e w' => e = .returned (.bool r) ∧ Only [] w w' := by
 have rs := store_com
 have HZ := Lib.hid (fun w => rzero_yes w)
 have e3 : (b == -1) = false := by simpa using h3
 clear h3
 have HS := Lib.hid (fun w1 (o1 : Only [] w w1) => rarms_any fn pr L (.slice S0 s1 s2) l hg (.slice A m c) F r w1 (hv.same o1) (fun b hb => Nat.lt_of_lt_of_le (hF b hb) o1.size) hr)
 clear hg hv hF hr
 obtain ⟨BM, BF, BI, O0⟩ := mk3 w 24 45 55 #[.string nm, .slice FA nf cf] #[.string fn, .int .i64 pr, .int .i64 L, .slice S0 s1 s2] #[.int .i64 33, .int .i64 a, .int .i64 b, .int .i64 0, .int .i64 0, .complex .f64 0 0, .string ⟨#[]⟩, .int .i64 0, .int .i64 0, .slice none 0 0, .slice A m c]
 go_enter Tryz.func34, Tryz.ntmps34
 go_wp2_with fail
 (with_reducible refine (HZ.out _).mono ?_)
 rintro e w1 ⟨rfl, o1⟩
 have OA := Lib.hid (O0.out.trans o1 (by simp))
 have BA := Lib.hid (BI.out.only o1 (by simp))
 have FA1 := Lib.hid (BF.out.only o1 (by simp))
 have MA := Lib.hid (BM.out.only o1 (by simp))
 obtain ⟨k0, k1, k2, k3, k4, k5, k6, k7, k8, k9, k10⟩ := BA.out.elevenH
 have f0 := FA1.out.cell0 (i := 0) rfl
 have f1 := FA1.out.cell0 (i := 1) rfl
 have f2 := FA1.out.cell0 (i := 2) rfl
 have f3 := FA1.out.cell0 (i := 3) rfl
 have m0 := MA.out.cell0 (i := 0) rfl
 have m1 := MA.out.cell0 (i := 1) rfl
 clear o1
 go_wp2_with fail
 (with_reducible refine (HS.out _ OA.out).mono ?_)
 rintro e w2 ⟨rfl, o2⟩
 have O2 := Lib.hid (OA.out.trans o2 (by simp))
 clear o2
 go_wp2_with fail
 go_ret
 exact ⟨rfl, O2.out⟩
theorem rmay_recv_z (nm : ByteArray) (FA : Option Addr) (nf cf : Nat) (fn : ByteArray) (pr L : Int) (S0 : Option Addr) (s1 s2 : Nat) (A : Option Addr) (c : Nat) (a : Int) (m : Nat) (l : List Arm) (F : Nat → Prop) (r : Bool) (w : World) (h3 : a = 0) (hg : ∀ a ∈ l, a.Good) (hv : AL w F l (.slice A m c)) (hF : ∀ b, F b → b < w.heap.size) (hr : armsOk L l = r) : Calls Tryz.prog 34 #[.agg #[.string nm, .slice FA nf cf], .agg #[.string fn, .int .i64 pr, .int .i64 L, .slice S0 s1 s2], .agg #[.int .i64 33, .int .i64 0, .int .i64 (-1), .int .i64 0, .int .i64 0, .complex .f64 0 0, .string ⟨#[]⟩, .int .i64 0, .int .i64 0, .slice none 0 0, .slice A m c]] w fun e w' => e = .returned (.bool r) ∧ Only [] w w' := by
 have rs := store_com
 have HZ := Lib.hid (fun w => rzero_yes w)
 clear h3
 have HS := Lib.hid (fun w1 (o1 : Only [] w w1) => rarms_any fn pr L (.slice S0 s1 s2) l hg (.slice A m c) F r w1 (hv.same o1) (fun b hb => Nat.lt_of_lt_of_le (hF b hb) o1.size) hr)
 clear hg hv hF hr
 obtain ⟨BM, BF, BI, O0⟩ := mk3 w 24 45 55 #[.string nm, .slice FA nf cf] #[.string fn, .int .i64 pr, .int .i64 L, .slice S0 s1 s2] #[.int .i64 33, .int .i64 0, .int .i64 (-1), .int .i64 0, .int .i64 0, .complex .f64 0 0, .string ⟨#[]⟩, .int .i64 0, .int .i64 0, .slice none 0 0, .slice A m c]
 go_enter Tryz.func34, Tryz.ntmps34
 go_wp2_with fail
 (with_reducible refine (HZ.out _).mono ?_)
 rintro e w1 ⟨rfl, o1⟩
 have OA := Lib.hid (O0.out.trans o1 (by simp))
 have BA := Lib.hid (BI.out.only o1 (by simp))
 have FA1 := Lib.hid (BF.out.only o1 (by simp))
 have MA := Lib.hid (BM.out.only o1 (by simp))
 obtain ⟨k0, k1, k2, k3, k4, k5, k6, k7, k8, k9, k10⟩ := BA.out.elevenH
 have f0 := FA1.out.cell0 (i := 0) rfl
 have f1 := FA1.out.cell0 (i := 1) rfl
 have f2 := FA1.out.cell0 (i := 2) rfl
 have f3 := FA1.out.cell0 (i := 3) rfl
 have m0 := MA.out.cell0 (i := 0) rfl
 have m1 := MA.out.cell0 (i := 1) rfl
 clear o1
 go_wp2_with fail
 (with_reducible refine (HS.out _ OA.out).mono ?_)
 rintro e w2 ⟨rfl, o2⟩
 have O2 := Lib.hid (OA.out.trans o2 (by simp))
 clear o2
 go_wp2_with fail
 go_ret
 exact ⟨rfl, O2.out⟩
theorem rmay_recv_lo (nm : ByteArray) (FA : Option Addr) (nf cf : Nat) (fn : ByteArray) (pr L : Int) (S0 : Option Addr) (s1 s2 : Nat) (A : Option Addr) (c : Nat) (a b : Int) (m : Nat) (r : Bool) (w : World) (h1 : b < -1) (hr : false = r) : Calls Tryz.prog 34 #[.agg #[.string nm, .slice FA nf cf], .agg #[.string fn, .int .i64 pr, .int .i64 L, .slice S0 s1 s2], .agg #[.int .i64 33, .int .i64 a, .int .i64 b, .int .i64 0, .int .i64 0, .complex .f64 0 0, .string ⟨#[]⟩, .int .i64 0, .int .i64 0, .slice none 0 0, .slice A m c]] w fun e w' => e = .returned (.bool r) ∧ Only [] w w' := by
 have rs := store_com
 have HZ := Lib.hid (fun w => rzero_yes w)
 have HR := Lib.hid hr
 clear hr
 obtain ⟨BM, BF, BI, O0⟩ := mk3 w 24 45 55 #[.string nm, .slice FA nf cf] #[.string fn, .int .i64 pr, .int .i64 L, .slice S0 s1 s2] #[.int .i64 33, .int .i64 a, .int .i64 b, .int .i64 0, .int .i64 0, .complex .f64 0 0, .string ⟨#[]⟩, .int .i64 0, .int .i64 0, .slice none 0 0, .slice A m c]
 go_enter Tryz.func34, Tryz.ntmps34
 go_wp2_with fail
 (with_reducible refine (HZ.out _).mono ?_)
 rintro e w1 ⟨rfl, o1⟩
 have OA := Lib.hid (O0.out.trans o1 (by simp))
 have BA := Lib.hid (BI.out.only o1 (by simp))
 have FA1 := Lib.hid (BF.out.only o1 (by simp))
 have MA := Lib.hid (BM.out.only o1 (by simp))
 obtain ⟨k0, k1, k2, k3, k4, k5, k6, k7, k8, k9, k10⟩ := BA.out.elevenH
 have f0 := FA1.out.cell0 (i := 0) rfl
 have f1 := FA1.out.cell0 (i := 1) rfl
 have f2 := FA1.out.cell0 (i := 2) rfl
 have f3 := FA1.out.cell0 (i := 3) rfl
 have m0 := MA.out.cell0 (i := 0) rfl
 have m1 := MA.out.cell0 (i := 1) rfl
 clear o1
 go_wp2_with fail
 go_ret
 exact ⟨ret_bool HR.out, OA.out⟩
theorem rmay_recv_hi (nm : ByteArray) (FA : Option Addr) (nf cf : Nat) (fn : ByteArray) (pr L : Int) (S0 : Option Addr) (s1 s2 : Nat) (A : Option Addr) (c : Nat) (a b : Int) (m : Nat) (r : Bool) (w : World) (h1 : ¬ b < -1) (h2 : 1048576 < b) (hr : false = r) : Calls Tryz.prog 34 #[.agg #[.string nm, .slice FA nf cf], .agg #[.string fn, .int .i64 pr, .int .i64 L, .slice S0 s1 s2], .agg #[.int .i64 33, .int .i64 a, .int .i64 b, .int .i64 0, .int .i64 0, .complex .f64 0 0, .string ⟨#[]⟩, .int .i64 0, .int .i64 0, .slice none 0 0, .slice A m c]] w fun e w' => e = .returned (.bool r) ∧ Only [] w w' := by
 have rs := store_com
 have HZ := Lib.hid (fun w => rzero_yes w)
 have HR := Lib.hid hr
 clear hr
 obtain ⟨BM, BF, BI, O0⟩ := mk3 w 24 45 55 #[.string nm, .slice FA nf cf] #[.string fn, .int .i64 pr, .int .i64 L, .slice S0 s1 s2] #[.int .i64 33, .int .i64 a, .int .i64 b, .int .i64 0, .int .i64 0, .complex .f64 0 0, .string ⟨#[]⟩, .int .i64 0, .int .i64 0, .slice none 0 0, .slice A m c]
 go_enter Tryz.func34, Tryz.ntmps34
 go_wp2_with fail
 (with_reducible refine (HZ.out _).mono ?_)
 rintro e w1 ⟨rfl, o1⟩
 have OA := Lib.hid (O0.out.trans o1 (by simp))
 have BA := Lib.hid (BI.out.only o1 (by simp))
 have FA1 := Lib.hid (BF.out.only o1 (by simp))
 have MA := Lib.hid (BM.out.only o1 (by simp))
 obtain ⟨k0, k1, k2, k3, k4, k5, k6, k7, k8, k9, k10⟩ := BA.out.elevenH
 have f0 := FA1.out.cell0 (i := 0) rfl
 have f1 := FA1.out.cell0 (i := 1) rfl
 have f2 := FA1.out.cell0 (i := 2) rfl
 have f3 := FA1.out.cell0 (i := 3) rfl
 have m0 := MA.out.cell0 (i := 0) rfl
 have m1 := MA.out.cell0 (i := 1) rfl
 clear o1
 go_wp2_with fail
 go_ret
 exact ⟨ret_bool HR.out, OA.out⟩
theorem rmay_recv_a (nm : ByteArray) (FA : Option Addr) (nf cf : Nat) (fn : ByteArray) (pr L : Int) (S0 : Option Addr) (s1 s2 : Nat) (A : Option Addr) (c : Nat) (a : Int) (m : Nat) (r : Bool) (w : World) (h3 : a ≠ 0) (hr : false = r) : Calls Tryz.prog 34 #[.agg #[.string nm, .slice FA nf cf], .agg #[.string fn, .int .i64 pr, .int .i64 L, .slice S0 s1 s2], .agg #[.int .i64 33, .int .i64 a, .int .i64 (-1), .int .i64 0, .int .i64 0, .complex .f64 0 0, .string ⟨#[]⟩, .int .i64 0, .int .i64 0, .slice none 0 0, .slice A m c]] w fun e w' => e = .returned (.bool r) ∧ Only [] w w' := by
 have rs := store_com
 have HZ := Lib.hid (fun w => rzero_yes w)
 have e3 : (a != 0) = true := by simpa using h3
 clear h3
 have HR := Lib.hid hr
 clear hr
 obtain ⟨BM, BF, BI, O0⟩ := mk3 w 24 45 55 #[.string nm, .slice FA nf cf] #[.string fn, .int .i64 pr, .int .i64 L, .slice S0 s1 s2] #[.int .i64 33, .int .i64 a, .int .i64 (-1), .int .i64 0, .int .i64 0, .complex .f64 0 0, .string ⟨#[]⟩, .int .i64 0, .int .i64 0, .slice none 0 0, .slice A m c]
 go_enter Tryz.func34, Tryz.ntmps34
 go_wp2_with fail
 (with_reducible refine (HZ.out _).mono ?_)
 rintro e w1 ⟨rfl, o1⟩
 have OA := Lib.hid (O0.out.trans o1 (by simp))
 have BA := Lib.hid (BI.out.only o1 (by simp))
 have FA1 := Lib.hid (BF.out.only o1 (by simp))
 have MA := Lib.hid (BM.out.only o1 (by simp))
 obtain ⟨k0, k1, k2, k3, k4, k5, k6, k7, k8, k9, k10⟩ := BA.out.elevenH
 have f0 := FA1.out.cell0 (i := 0) rfl
 have f1 := FA1.out.cell0 (i := 1) rfl
 have f2 := FA1.out.cell0 (i := 2) rfl
 have f3 := FA1.out.cell0 (i := 3) rfl
 have m0 := MA.out.cell0 (i := 0) rfl
 have m1 := MA.out.cell0 (i := 1) rfl
 clear o1
 go_wp2_with fail
 go_ret
 exact ⟨ret_bool HR.out, OA.out⟩
theorem rmay_call (nm : ByteArray) (FA : Option Addr) (nf cf : Nat) (fn : ByteArray) (pr L : Int) (S0 : Option Addr) (s1 s2 : Nat) (A : Option Addr) (c : Nat) (a : Int) (r : Bool) (w : World) (ha : 0 ≤ a) (hr : decide (a < (nf : Int)) = r) : Calls Tryz.prog 34 #[.agg #[.string nm, .slice FA nf cf], .agg #[.string fn, .int .i64 pr, .int .i64 L, .slice S0 s1 s2], .agg #[.int .i64 28, .int .i64 a, .int .i64 0, .int .i64 0, .int .i64 0, .complex .f64 0 0, .string ⟨#[]⟩, .int .i64 0, .int .i64 0, .slice none 0 0, .slice A 0 c]] w fun e w' => e = .returned (.bool r) ∧ Only [] w w' := by
 have rs := store_com
 have HZ := Lib.hid (fun w => rzero_yes w)
 have HR := Lib.hid hr
 clear hr
 obtain ⟨BM, BF, BI, O0⟩ := mk3 w 24 45 55 #[.string nm, .slice FA nf cf] #[.string fn, .int .i64 pr, .int .i64 L, .slice S0 s1 s2] #[.int .i64 28, .int .i64 a, .int .i64 0, .int .i64 0, .int .i64 0, .complex .f64 0 0, .string ⟨#[]⟩, .int .i64 0, .int .i64 0, .slice none 0 0, .slice A 0 c]
 go_enter Tryz.func34, Tryz.ntmps34
 go_wp2_with fail
 (with_reducible refine (HZ.out _).mono ?_)
 rintro e w1 ⟨rfl, o1⟩
 have OA := Lib.hid (O0.out.trans o1 (by simp))
 have BA := Lib.hid (BI.out.only o1 (by simp))
 have FA1 := Lib.hid (BF.out.only o1 (by simp))
 have MA := Lib.hid (BM.out.only o1 (by simp))
 obtain ⟨k0, k1, k2, k3, k4, k5, k6, k7, k8, k9, k10⟩ := BA.out.elevenH
 have f0 := FA1.out.cell0 (i := 0) rfl
 have f1 := FA1.out.cell0 (i := 1) rfl
 have f2 := FA1.out.cell0 (i := 2) rfl
 have f3 := FA1.out.cell0 (i := 3) rfl
 have m0 := MA.out.cell0 (i := 0) rfl
 have m1 := MA.out.cell0 (i := 1) rfl
 clear o1
 go_wp2_with fail
 go_ret
 exact ⟨ret_bool HR.out, OA.out⟩
theorem rmay_spawn_yes (nm : ByteArray) (FA : Option Addr) (nf cf : Nat) (fn : ByteArray) (pr L : Int) (S0 : Option Addr) (s1 s2 : Nat) (A : Option Addr) (c : Nat) (a b : Int) (r : Bool) (w : World) (ha : 0 ≤ a) (hb : 0 ≤ b) (h1 : a < (nf : Int)) (hr : decide (b < 3) = r) : Calls Tryz.prog 34 #[.agg #[.string nm, .slice FA nf cf], .agg #[.string fn, .int .i64 pr, .int .i64 L, .slice S0 s1 s2], .agg #[.int .i64 34, .int .i64 a, .int .i64 b, .int .i64 0, .int .i64 0, .complex .f64 0 0, .string ⟨#[]⟩, .int .i64 0, .int .i64 0, .slice none 0 0, .slice A 0 c]] w fun e w' => e = .returned (.bool r) ∧ Only [] w w' := by
 have rs := store_com
 have HZ := Lib.hid (fun w => rzero_yes w)
 have HR := Lib.hid hr
 clear hr
 obtain ⟨BM, BF, BI, O0⟩ := mk3 w 24 45 55 #[.string nm, .slice FA nf cf] #[.string fn, .int .i64 pr, .int .i64 L, .slice S0 s1 s2] #[.int .i64 34, .int .i64 a, .int .i64 b, .int .i64 0, .int .i64 0, .complex .f64 0 0, .string ⟨#[]⟩, .int .i64 0, .int .i64 0, .slice none 0 0, .slice A 0 c]
 go_enter Tryz.func34, Tryz.ntmps34
 go_wp2_with fail
 (with_reducible refine (HZ.out _).mono ?_)
 rintro e w1 ⟨rfl, o1⟩
 have OA := Lib.hid (O0.out.trans o1 (by simp))
 have BA := Lib.hid (BI.out.only o1 (by simp))
 have FA1 := Lib.hid (BF.out.only o1 (by simp))
 have MA := Lib.hid (BM.out.only o1 (by simp))
 obtain ⟨k0, k1, k2, k3, k4, k5, k6, k7, k8, k9, k10⟩ := BA.out.elevenH
 have f0 := FA1.out.cell0 (i := 0) rfl
 have f1 := FA1.out.cell0 (i := 1) rfl
 have f2 := FA1.out.cell0 (i := 2) rfl
 have f3 := FA1.out.cell0 (i := 3) rfl
 have m0 := MA.out.cell0 (i := 0) rfl
 have m1 := MA.out.cell0 (i := 1) rfl
 clear o1
 go_wp2_with fail
 go_ret
 exact ⟨ret_bool HR.out, OA.out⟩
theorem rmay_spawn_no (nm : ByteArray) (FA : Option Addr) (nf cf : Nat) (fn : ByteArray) (pr L : Int) (S0 : Option Addr) (s1 s2 : Nat) (A : Option Addr) (c : Nat) (a b : Int) (r : Bool) (w : World) (ha : 0 ≤ a) (h1 : ¬ a < (nf : Int)) (hr : false = r) : Calls Tryz.prog 34 #[.agg #[.string nm, .slice FA nf cf], .agg #[.string fn, .int .i64 pr, .int .i64 L, .slice S0 s1 s2], .agg #[.int .i64 34, .int .i64 a, .int .i64 b, .int .i64 0, .int .i64 0, .complex .f64 0 0, .string ⟨#[]⟩, .int .i64 0, .int .i64 0, .slice none 0 0, .slice A 0 c]] w fun e w' => e = .returned (.bool r) ∧ Only [] w w' := by
 have rs := store_com
 have HZ := Lib.hid (fun w => rzero_yes w)
 have h1 : decide (a < (nf : Int)) = false := decide_eq_false h1
 have HR := Lib.hid hr
 clear hr
 obtain ⟨BM, BF, BI, O0⟩ := mk3 w 24 45 55 #[.string nm, .slice FA nf cf] #[.string fn, .int .i64 pr, .int .i64 L, .slice S0 s1 s2] #[.int .i64 34, .int .i64 a, .int .i64 b, .int .i64 0, .int .i64 0, .complex .f64 0 0, .string ⟨#[]⟩, .int .i64 0, .int .i64 0, .slice none 0 0, .slice A 0 c]
 go_enter Tryz.func34, Tryz.ntmps34
 go_wp2_with fail
 (with_reducible refine (HZ.out _).mono ?_)
 rintro e w1 ⟨rfl, o1⟩
 have OA := Lib.hid (O0.out.trans o1 (by simp))
 have BA := Lib.hid (BI.out.only o1 (by simp))
 have FA1 := Lib.hid (BF.out.only o1 (by simp))
 have MA := Lib.hid (BM.out.only o1 (by simp))
 obtain ⟨k0, k1, k2, k3, k4, k5, k6, k7, k8, k9, k10⟩ := BA.out.elevenH
 have f0 := FA1.out.cell0 (i := 0) rfl
 have f1 := FA1.out.cell0 (i := 1) rfl
 have f2 := FA1.out.cell0 (i := 2) rfl
 have f3 := FA1.out.cell0 (i := 3) rfl
 have m0 := MA.out.cell0 (i := 0) rfl
 have m1 := MA.out.cell0 (i := 1) rfl
 clear o1
 go_wp2_with fail
 go_ret
 exact ⟨ret_bool HR.out, OA.out⟩
theorem rmay_rest (nm : ByteArray) (FA : Option Addr) (nf cf : Nat) (fn : ByteArray) (pr L : Int) (S0 : Option Addr) (s1 s2 : Nat) (A : Option Addr) (c : Nat) (op : Int) (r : Bool) (w : World) (ho : 1 ≤ op) (ho2 : op ≤ 46) (h1 : (op == 1) = false) (h3 : (op == 3) = false) (h4 : (op == 4) = false) (h5 : (op == 5) = false) (h17 : (op == 17) = false) (h18 : (op == 18) = false) (h19 : (op == 19) = false) (h25 : (op == 25) = false) (h26 : (op == 26) = false) (h27 : (op == 27) = false) (h28 : (op == 28) = false) (h33 : (op == 33) = false) (h34 : (op == 34) = false) (n1 : (op != 1) = true) (n27 : (op != 27) = true) (n33 : (op != 33) = true) (n34 : (op != 34) = true) (hr : true = r) : Calls Tryz.prog 34 #[.agg #[.string nm, .slice FA nf cf], .agg #[.string fn, .int .i64 pr, .int .i64 L, .slice S0 s1 s2], .agg #[.int .i64 op, .int .i64 0, .int .i64 0, .int .i64 0, .int .i64 0, .complex .f64 0 0, .string ⟨#[]⟩, .int .i64 0, .int .i64 0, .slice none 0 0, .slice A 0 c]] w fun e w' => e = .returned (.bool r) ∧ Only [] w w' := by
 have rs := store_com
 have HZ := Lib.hid (fun w => rzero_yes w)
 have HR := Lib.hid hr
 clear hr
 obtain ⟨BM, BF, BI, O0⟩ := mk3 w 24 45 55 #[.string nm, .slice FA nf cf] #[.string fn, .int .i64 pr, .int .i64 L, .slice S0 s1 s2] #[.int .i64 op, .int .i64 0, .int .i64 0, .int .i64 0, .int .i64 0, .complex .f64 0 0, .string ⟨#[]⟩, .int .i64 0, .int .i64 0, .slice none 0 0, .slice A 0 c]
 go_enter Tryz.func34, Tryz.ntmps34
 go_wp2_with fail
 (with_reducible refine (HZ.out _).mono ?_)
 rintro e w1 ⟨rfl, o1⟩
 have OA := Lib.hid (O0.out.trans o1 (by simp))
 have BA := Lib.hid (BI.out.only o1 (by simp))
 have FA1 := Lib.hid (BF.out.only o1 (by simp))
 have MA := Lib.hid (BM.out.only o1 (by simp))
 obtain ⟨k0, k1, k2, k3, k4, k5, k6, k7, k8, k9, k10⟩ := BA.out.elevenH
 have f0 := FA1.out.cell0 (i := 0) rfl
 have f1 := FA1.out.cell0 (i := 1) rfl
 have f2 := FA1.out.cell0 (i := 2) rfl
 have f3 := FA1.out.cell0 (i := 3) rfl
 have m0 := MA.out.cell0 (i := 0) rfl
 have m1 := MA.out.cell0 (i := 1) rfl
 clear o1
 go_wp2_with fail
 go_ret
 exact ⟨ret_bool HR.out, OA.out⟩
end Go.Proofs.YtcdefnbehlcgeaaGreatDoor
