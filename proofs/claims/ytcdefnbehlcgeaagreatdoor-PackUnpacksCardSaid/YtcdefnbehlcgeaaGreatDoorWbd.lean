/- code: instrMayBe, by the operation. -/
import Derived.Test.YtcdefnbehlcgeaaGreatDoorWz
import Derived.Test.YtcdefnbehlcgeaaGreatDoorWf
import Derived.BigQuiet
set_option maxHeartbeats 8000000
set_option maxRecDepth 20000
namespace Go.Proofs.YtcdefnbehlcgeaaGreatDoor
open Go.RowKit
theorem czy (w : World) : Calls Tryz.prog 82 #[.agg #[.int .i64 0, .int .i64 0, .complex .f64 0 0, .string ⟨#[]⟩, .int .i64 0, .int .i64 0, .slice none 0 0]] w fun e w' => e = .returned (.bool true) ∧ Only [] w w' :=
 (czero_yes w).mono fun _ _ ⟨h, o, e⟩ => ⟨h, by rw [e]; exact (Only.refl [] w).alloc o⟩
theorem czn (k n : Int) (x y : Nat) (S : ByteArray) (a b : Int) (A : Option Addr) (m c : Nat) (w : World) (h : k ≠ 0) : Calls Tryz.prog 82 #[.agg #[.int .i64 k, .int .i64 n, .complex .f64 x y, .string S, .int .i64 a, .int .i64 b, .slice A m c]] w fun e w' => e = .returned (.bool false) ∧ Only [] w w' :=
 (czero_no k n x y S a b A m c w h).mono fun _ _ ⟨h, o, e⟩ => ⟨h, by rw [e]; exact (Only.refl [] w).alloc o⟩
theorem mk2 (w : World) (t1 t2 : TypeId) (c1 c2 : Array Value) : Hid (Bk ((w.alloc (.cells c1 t1)).alloc (.cells c2 t2)) w.heap.size t1 c1) ∧ Hid (Bk ((w.alloc (.cells c1 t1)).alloc (.cells c2 t2)) (w.heap.size + 1) t2 c2) ∧ Hid (Only [] w ((w.alloc (.cells c1 t1)).alloc (.cells c2 t2))) :=
 ⟨Lib.hid ((Bk.made w t1 c1).alloc (.cells c2 t2)), Lib.hid (Bk.madeAt (by simp)), Lib.hid (((Only.refl [] w).alloc _).alloc _)⟩
theorem calm11 {w : World} {g : Nat} {t : TypeId} {v0 v1 v2 v3 v4 v5 v6 v7 v8 v9 v10 : Value} (h : Bk w g t #[v0, v1, v2, v3, v4, v5, v6, v7, v8, v9, v10]) :
 (∀ x : Cm w, x.1.cell? ⟨g, 1, none⟩ = some v1) ∧ (∀ x : Cm w, x.1.cell? ⟨g, 2, none⟩ = some v2) ∧ (∀ x : Cm w, x.1.cell? ⟨g, 3, none⟩ = some v3) ∧ (∀ x : Cm w, x.1.cell? ⟨g, 4, none⟩ = some v4) ∧ (∀ x : Cm w, x.1.cell? ⟨g, 5, none⟩ = some v5) ∧ (∀ x : Cm w, x.1.cell? ⟨g, 6, none⟩ = some v6) ∧ (∀ x : Cm w, x.1.cell? ⟨g, 7, none⟩ = some v7) ∧ (∀ x : Cm w, x.1.cell? ⟨g, 8, none⟩ = some v8) ∧ (∀ x : Cm w, x.1.cell? ⟨g, 9, none⟩ = some v9) ∧ (∀ x : Cm w, x.1.cell? ⟨g, 10, none⟩ = some v10) :=
 ⟨fun x => (h.only x.o (by simp)).cell0 rfl, fun x => (h.only x.o (by simp)).cell0 rfl, fun x => (h.only x.o (by simp)).cell0 rfl, fun x => (h.only x.o (by simp)).cell0 rfl, fun x => (h.only x.o (by simp)).cell0 rfl, fun x => (h.only x.o (by simp)).cell0 rfl, fun x => (h.only x.o (by simp)).cell0 rfl, fun x => (h.only x.o (by simp)).cell0 rfl, fun x => (h.only x.o (by simp)).cell0 rfl, fun x => (h.only x.o (by simp)).cell0 rfl⟩
theorem imay_push (nm : ByteArray) (FA : Option Addr) (nf cf : Nat) (L : Int) (A : Option Addr) (c : Nat) (t : T) (A9 : Option Addr) (m9 z9 : Nat) (F : Nat → Prop) (r : Bool) (w : World) (hg : t.Good) (hv : TV w F t (.slice A9 m9 z9)) (hF : ∀ b, F b → b < w.heap.size) (hr : decide (chk t = 0) = r) : Calls Tryz.prog 48 #[.agg #[.string nm, .slice FA nf cf], .int .i64 L, .agg #[.int .i64 1, .int .i64 0, .int .i64 0, .int .i64 t.k, .int .i64 t.n, .complex .f64 t.x t.y, .string t.S, .int .i64 t.a, .int .i64 t.b, .slice A9 m9 z9, .slice A 0 c]] w fun e w' => e = .returned (.bool r) ∧ Only [] w w' := by
 have rs := store_com
 have HZ := Lib.hid (fun w => czn t.k t.n t.x t.y t.S t.a t.b A9 m9 z9 w (good_k0 hg))
 obtain ⟨z, hz⟩ : ∃ z, chk t = z := ⟨_, rfl⟩
 have HC := Lib.hid (fun w1 (o1 : Only [] w w1) => check_any t hg (.slice A9 m9 z9) F w1 (hv.same o1) (fun b hb => Nat.lt_of_lt_of_le (hF b hb) o1.size))
 rw [hz] at HC hr
 have hb : (z == 0) = r := hr
 clear hg hv hF hr hz
 cases r
 all_goals
  obtain ⟨BM, BI, O0⟩ := mk2 w 24 55 #[.string nm, .slice FA nf cf] #[.int .i64 1, .int .i64 0, .int .i64 0, .int .i64 t.k, .int .i64 t.n, .complex .f64 t.x t.y, .string t.S, .int .i64 t.a, .int .i64 t.b, .slice A9 m9 z9, .slice A 0 c]
  obtain ⟨u1, u2, u3, u4, u5, u6, u7, u8, u9, u10⟩ := calm11 BI.out
  go_enter Tryz.func48, Tryz.ntmps48
  go_wp2_with fail
  refine wp_region_calm (by kernel_rfl) (by kernel_rfl) ?_
  repeat (go_big_quiet_step ((go_at_call 82; exact calmS (HZ.out _))))
  refine wpQuiet_nil ?_
  rintro w2 ⟨⟨w2', o2⟩, e2⟩
  obtain rfl : w2 = w2' := e2
  have OA := Lib.hid (O0.out.trans o2 (by simp))
  have BA := Lib.hid (BI.out.only o2 (by simp))
  have MA := Lib.hid (BM.out.only o2 (by simp))
  obtain ⟨x0, x1, x2, x3, x4, x5, x6, x7, x8, x9, x10⟩ := BA.out.elevenH
  have y0 := MA.out.cell0 (i := 0) rfl
  have y1 := MA.out.cell0 (i := 1) rfl
  clear u1 u2 u3 u4 u5 u6 u7 u8 u9 u10 o2
  go_wp2_with fail
  (with_reducible refine (HC.out _ OA.out).mono ?_)
  rintro e w3 ⟨rfl, o3⟩
  have O3 := Lib.hid (OA.out.trans o3 (by simp))
  have B3 := Lib.hid (BA.out.only o3 (by simp))
  have k0 := B3.out.cell0 (i := 0) rfl
  clear o3
  go_wp2_with fail
  (with_reducible refine (isOp_yes _ (by first | decide | assumption) _).mono ?_)
  rintro e w4 ⟨rfl, rfl⟩
  go_wp2_with fail
  go_ret
  exact ⟨rfl, O3.out⟩
theorem imay_dup (nm : ByteArray) (FA : Option Addr) (nf cf : Nat) (L : Int) (A : Option Addr) (c : Nat) (a : Int) (r : Bool) (w : World) (hr : (decide (0 ≤ a) && decide (a ≤ 254)) = r) : Calls Tryz.prog 48 #[.agg #[.string nm, .slice FA nf cf], .int .i64 L, .agg #[.int .i64 3, .int .i64 a, .int .i64 0, .int .i64 0, .int .i64 0, .complex .f64 0 0, .string ⟨#[]⟩, .int .i64 0, .int .i64 0, .slice none 0 0, .slice A 0 c]] w fun e w' => e = .returned (.bool r) ∧ Only [] w w' := by
 have rs := store_com
 have HZ := Lib.hid (fun w => czy w)
 have HW := Lib.hid (fun w => isWithin_any a 0 254 w)
 rw [hr] at HW
 clear hr
 cases r
 all_goals
  obtain ⟨BM, BI, O0⟩ := mk2 w 24 55 #[.string nm, .slice FA nf cf] #[.int .i64 3, .int .i64 a, .int .i64 0, .int .i64 0, .int .i64 0, .complex .f64 0 0, .string ⟨#[]⟩, .int .i64 0, .int .i64 0, .slice none 0 0, .slice A 0 c]
  obtain ⟨u1, u2, u3, u4, u5, u6, u7, u8, u9, u10⟩ := calm11 BI.out
  go_enter Tryz.func48, Tryz.ntmps48
  go_wp2_with fail
  refine wp_region_calm (by kernel_rfl) (by kernel_rfl) ?_
  repeat (go_big_quiet_step ((go_at_call 82; exact calmS (HZ.out _))))
  refine wpQuiet_nil ?_
  rintro w2 ⟨⟨w2', o2⟩, e2⟩
  obtain rfl : w2 = w2' := e2
  have OA := Lib.hid (O0.out.trans o2 (by simp))
  have BA := Lib.hid (BI.out.only o2 (by simp))
  have MA := Lib.hid (BM.out.only o2 (by simp))
  obtain ⟨x0, x1, x2, x3, x4, x5, x6, x7, x8, x9, x10⟩ := BA.out.elevenH
  have y0 := MA.out.cell0 (i := 0) rfl
  have y1 := MA.out.cell0 (i := 1) rfl
  clear u1 u2 u3 u4 u5 u6 u7 u8 u9 u10 o2
  go_wp2_with fail
  (with_reducible refine (HW.out _).mono ?_)
  rintro e w3 ⟨rfl, rfl⟩
  have k0 := BA.out.cell0 (i := 0) rfl
  go_wp2_with fail
  (with_reducible refine (isOp_yes _ (by first | decide | assumption) _).mono ?_)
  rintro e w4 ⟨rfl, rfl⟩
  go_wp2_with fail
  go_ret
  exact ⟨rfl, OA.out⟩
theorem imay_loc4 (nm : ByteArray) (FA : Option Addr) (nf cf : Nat) (L : Int) (A : Option Addr) (c : Nat) (a : Int) (r : Bool) (w : World) (hr : (decide (0 ≤ a) && decide (a ≤ L - 1)) = r) (hL : 0 ≤ L ∧ L ≤ 32) : Calls Tryz.prog 48 #[.agg #[.string nm, .slice FA nf cf], .int .i64 L, .agg #[.int .i64 4, .int .i64 a, .int .i64 0, .int .i64 0, .int .i64 0, .complex .f64 0 0, .string ⟨#[]⟩, .int .i64 0, .int .i64 0, .slice none 0 0, .slice A 0 c]] w fun e w' => e = .returned (.bool r) ∧ Only [] w w' := by
 have rs := store_com
 have HZ := Lib.hid (fun w => czy w)
 have q1 : IntKind.i64.wrap (L - 1) = L - 1 := IntWalk.i64_in _ (by omega)
 have HW := Lib.hid (fun w => isWithin_any a 0 (L - 1) w)
 rw [hr] at HW
 clear hr
 cases r
 all_goals
  obtain ⟨BM, BI, O0⟩ := mk2 w 24 55 #[.string nm, .slice FA nf cf] #[.int .i64 4, .int .i64 a, .int .i64 0, .int .i64 0, .int .i64 0, .complex .f64 0 0, .string ⟨#[]⟩, .int .i64 0, .int .i64 0, .slice none 0 0, .slice A 0 c]
  obtain ⟨u1, u2, u3, u4, u5, u6, u7, u8, u9, u10⟩ := calm11 BI.out
  go_enter Tryz.func48, Tryz.ntmps48
  go_wp2_with fail
  refine wp_region_calm (by kernel_rfl) (by kernel_rfl) ?_
  repeat (go_big_quiet_step ((go_at_call 82; exact calmS (HZ.out _))))
  refine wpQuiet_nil ?_
  rintro w2 ⟨⟨w2', o2⟩, e2⟩
  obtain rfl : w2 = w2' := e2
  have OA := Lib.hid (O0.out.trans o2 (by simp))
  have BA := Lib.hid (BI.out.only o2 (by simp))
  have MA := Lib.hid (BM.out.only o2 (by simp))
  obtain ⟨x0, x1, x2, x3, x4, x5, x6, x7, x8, x9, x10⟩ := BA.out.elevenH
  have y0 := MA.out.cell0 (i := 0) rfl
  have y1 := MA.out.cell0 (i := 1) rfl
  clear u1 u2 u3 u4 u5 u6 u7 u8 u9 u10 o2
  go_wp2_with fail
  (with_reducible refine (HW.out _).mono ?_)
  rintro e w3 ⟨rfl, rfl⟩
  have k0 := BA.out.cell0 (i := 0) rfl
  go_wp2_with fail
  (with_reducible refine (isOp_yes _ (by first | decide | assumption) _).mono ?_)
  rintro e w4 ⟨rfl, rfl⟩
  go_wp2_with fail
  go_ret
  exact ⟨rfl, OA.out⟩
theorem imay_loc5 (nm : ByteArray) (FA : Option Addr) (nf cf : Nat) (L : Int) (A : Option Addr) (c : Nat) (a : Int) (r : Bool) (w : World) (hr : (decide (0 ≤ a) && decide (a ≤ L - 1)) = r) (hL : 0 ≤ L ∧ L ≤ 32) : Calls Tryz.prog 48 #[.agg #[.string nm, .slice FA nf cf], .int .i64 L, .agg #[.int .i64 5, .int .i64 a, .int .i64 0, .int .i64 0, .int .i64 0, .complex .f64 0 0, .string ⟨#[]⟩, .int .i64 0, .int .i64 0, .slice none 0 0, .slice A 0 c]] w fun e w' => e = .returned (.bool r) ∧ Only [] w w' := by
 have rs := store_com
 have HZ := Lib.hid (fun w => czy w)
 have q1 : IntKind.i64.wrap (L - 1) = L - 1 := IntWalk.i64_in _ (by omega)
 have HW := Lib.hid (fun w => isWithin_any a 0 (L - 1) w)
 rw [hr] at HW
 clear hr
 cases r
 all_goals
  obtain ⟨BM, BI, O0⟩ := mk2 w 24 55 #[.string nm, .slice FA nf cf] #[.int .i64 5, .int .i64 a, .int .i64 0, .int .i64 0, .int .i64 0, .complex .f64 0 0, .string ⟨#[]⟩, .int .i64 0, .int .i64 0, .slice none 0 0, .slice A 0 c]
  obtain ⟨u1, u2, u3, u4, u5, u6, u7, u8, u9, u10⟩ := calm11 BI.out
  go_enter Tryz.func48, Tryz.ntmps48
  go_wp2_with fail
  refine wp_region_calm (by kernel_rfl) (by kernel_rfl) ?_
  repeat (go_big_quiet_step ((go_at_call 82; exact calmS (HZ.out _))))
  refine wpQuiet_nil ?_
  rintro w2 ⟨⟨w2', o2⟩, e2⟩
  obtain rfl : w2 = w2' := e2
  have OA := Lib.hid (O0.out.trans o2 (by simp))
  have BA := Lib.hid (BI.out.only o2 (by simp))
  have MA := Lib.hid (BM.out.only o2 (by simp))
  obtain ⟨x0, x1, x2, x3, x4, x5, x6, x7, x8, x9, x10⟩ := BA.out.elevenH
  have y0 := MA.out.cell0 (i := 0) rfl
  have y1 := MA.out.cell0 (i := 1) rfl
  clear u1 u2 u3 u4 u5 u6 u7 u8 u9 u10 o2
  go_wp2_with fail
  (with_reducible refine (HW.out _).mono ?_)
  rintro e w3 ⟨rfl, rfl⟩
  have k0 := BA.out.cell0 (i := 0) rfl
  go_wp2_with fail
  (with_reducible refine (isOp_yes _ (by first | decide | assumption) _).mono ?_)
  rintro e w4 ⟨rfl, rfl⟩
  go_wp2_with fail
  go_ret
  exact ⟨rfl, OA.out⟩
theorem imay_kind (nm : ByteArray) (FA : Option Addr) (nf cf : Nat) (L : Int) (A : Option Addr) (c : Nat) (a : Int) (r : Bool) (w : World) (hr : (decide (1 ≤ a) && decide (a ≤ 9)) = r) : Calls Tryz.prog 48 #[.agg #[.string nm, .slice FA nf cf], .int .i64 L, .agg #[.int .i64 17, .int .i64 a, .int .i64 0, .int .i64 0, .int .i64 0, .complex .f64 0 0, .string ⟨#[]⟩, .int .i64 0, .int .i64 0, .slice none 0 0, .slice A 0 c]] w fun e w' => e = .returned (.bool r) ∧ Only [] w w' := by
 have rs := store_com
 have HZ := Lib.hid (fun w => czy w)
 have HW := Lib.hid (fun w => isWithin_any a 1 9 w)
 rw [hr] at HW
 clear hr
 cases r
 all_goals
  obtain ⟨BM, BI, O0⟩ := mk2 w 24 55 #[.string nm, .slice FA nf cf] #[.int .i64 17, .int .i64 a, .int .i64 0, .int .i64 0, .int .i64 0, .complex .f64 0 0, .string ⟨#[]⟩, .int .i64 0, .int .i64 0, .slice none 0 0, .slice A 0 c]
  obtain ⟨u1, u2, u3, u4, u5, u6, u7, u8, u9, u10⟩ := calm11 BI.out
  go_enter Tryz.func48, Tryz.ntmps48
  go_wp2_with fail
  refine wp_region_calm (by kernel_rfl) (by kernel_rfl) ?_
  repeat (go_big_quiet_step ((go_at_call 82; exact calmS (HZ.out _))))
  refine wpQuiet_nil ?_
  rintro w2 ⟨⟨w2', o2⟩, e2⟩
  obtain rfl : w2 = w2' := e2
  have OA := Lib.hid (O0.out.trans o2 (by simp))
  have BA := Lib.hid (BI.out.only o2 (by simp))
  have MA := Lib.hid (BM.out.only o2 (by simp))
  obtain ⟨x0, x1, x2, x3, x4, x5, x6, x7, x8, x9, x10⟩ := BA.out.elevenH
  have y0 := MA.out.cell0 (i := 0) rfl
  have y1 := MA.out.cell0 (i := 1) rfl
  clear u1 u2 u3 u4 u5 u6 u7 u8 u9 u10 o2
  go_wp2_with fail
  (with_reducible refine (HW.out _).mono ?_)
  rintro e w3 ⟨rfl, rfl⟩
  have k0 := BA.out.cell0 (i := 0) rfl
  go_wp2_with fail
  (with_reducible refine (isOp_yes _ (by first | decide | assumption) _).mono ?_)
  rintro e w4 ⟨rfl, rfl⟩
  go_wp2_with fail
  go_ret
  exact ⟨rfl, OA.out⟩
theorem imay_seq18 (nm : ByteArray) (FA : Option Addr) (nf cf : Nat) (L : Int) (A : Option Addr) (c : Nat) (a : Int) (r : Bool) (w : World) (hr : (decide (0 ≤ a) && decide (a ≤ 255)) = r) : Calls Tryz.prog 48 #[.agg #[.string nm, .slice FA nf cf], .int .i64 L, .agg #[.int .i64 18, .int .i64 a, .int .i64 0, .int .i64 0, .int .i64 0, .complex .f64 0 0, .string ⟨#[]⟩, .int .i64 0, .int .i64 0, .slice none 0 0, .slice A 0 c]] w fun e w' => e = .returned (.bool r) ∧ Only [] w w' := by
 have rs := store_com
 have HZ := Lib.hid (fun w => czy w)
 have HW := Lib.hid (fun w => isWithin_any a 0 255 w)
 rw [hr] at HW
 clear hr
 cases r
 all_goals
  obtain ⟨BM, BI, O0⟩ := mk2 w 24 55 #[.string nm, .slice FA nf cf] #[.int .i64 18, .int .i64 a, .int .i64 0, .int .i64 0, .int .i64 0, .complex .f64 0 0, .string ⟨#[]⟩, .int .i64 0, .int .i64 0, .slice none 0 0, .slice A 0 c]
  obtain ⟨u1, u2, u3, u4, u5, u6, u7, u8, u9, u10⟩ := calm11 BI.out
  go_enter Tryz.func48, Tryz.ntmps48
  go_wp2_with fail
  refine wp_region_calm (by kernel_rfl) (by kernel_rfl) ?_
  repeat (go_big_quiet_step ((go_at_call 82; exact calmS (HZ.out _))))
  refine wpQuiet_nil ?_
  rintro w2 ⟨⟨w2', o2⟩, e2⟩
  obtain rfl : w2 = w2' := e2
  have OA := Lib.hid (O0.out.trans o2 (by simp))
  have BA := Lib.hid (BI.out.only o2 (by simp))
  have MA := Lib.hid (BM.out.only o2 (by simp))
  obtain ⟨x0, x1, x2, x3, x4, x5, x6, x7, x8, x9, x10⟩ := BA.out.elevenH
  have y0 := MA.out.cell0 (i := 0) rfl
  have y1 := MA.out.cell0 (i := 1) rfl
  clear u1 u2 u3 u4 u5 u6 u7 u8 u9 u10 o2
  go_wp2_with fail
  (with_reducible refine (HW.out _).mono ?_)
  rintro e w3 ⟨rfl, rfl⟩
  have k0 := BA.out.cell0 (i := 0) rfl
  go_wp2_with fail
  (with_reducible refine (isOp_yes _ (by first | decide | assumption) _).mono ?_)
  rintro e w4 ⟨rfl, rfl⟩
  go_wp2_with fail
  go_ret
  exact ⟨rfl, OA.out⟩
theorem imay_seq19 (nm : ByteArray) (FA : Option Addr) (nf cf : Nat) (L : Int) (A : Option Addr) (c : Nat) (a : Int) (r : Bool) (w : World) (hr : (decide (0 ≤ a) && decide (a ≤ 255)) = r) : Calls Tryz.prog 48 #[.agg #[.string nm, .slice FA nf cf], .int .i64 L, .agg #[.int .i64 19, .int .i64 a, .int .i64 0, .int .i64 0, .int .i64 0, .complex .f64 0 0, .string ⟨#[]⟩, .int .i64 0, .int .i64 0, .slice none 0 0, .slice A 0 c]] w fun e w' => e = .returned (.bool r) ∧ Only [] w w' := by
 have rs := store_com
 have HZ := Lib.hid (fun w => czy w)
 have HW := Lib.hid (fun w => isWithin_any a 0 255 w)
 rw [hr] at HW
 clear hr
 cases r
 all_goals
  obtain ⟨BM, BI, O0⟩ := mk2 w 24 55 #[.string nm, .slice FA nf cf] #[.int .i64 19, .int .i64 a, .int .i64 0, .int .i64 0, .int .i64 0, .complex .f64 0 0, .string ⟨#[]⟩, .int .i64 0, .int .i64 0, .slice none 0 0, .slice A 0 c]
  obtain ⟨u1, u2, u3, u4, u5, u6, u7, u8, u9, u10⟩ := calm11 BI.out
  go_enter Tryz.func48, Tryz.ntmps48
  go_wp2_with fail
  refine wp_region_calm (by kernel_rfl) (by kernel_rfl) ?_
  repeat (go_big_quiet_step ((go_at_call 82; exact calmS (HZ.out _))))
  refine wpQuiet_nil ?_
  rintro w2 ⟨⟨w2', o2⟩, e2⟩
  obtain rfl : w2 = w2' := e2
  have OA := Lib.hid (O0.out.trans o2 (by simp))
  have BA := Lib.hid (BI.out.only o2 (by simp))
  have MA := Lib.hid (BM.out.only o2 (by simp))
  obtain ⟨x0, x1, x2, x3, x4, x5, x6, x7, x8, x9, x10⟩ := BA.out.elevenH
  have y0 := MA.out.cell0 (i := 0) rfl
  have y1 := MA.out.cell0 (i := 1) rfl
  clear u1 u2 u3 u4 u5 u6 u7 u8 u9 u10 o2
  go_wp2_with fail
  (with_reducible refine (HW.out _).mono ?_)
  rintro e w3 ⟨rfl, rfl⟩
  have k0 := BA.out.cell0 (i := 0) rfl
  go_wp2_with fail
  (with_reducible refine (isOp_yes _ (by first | decide | assumption) _).mono ?_)
  rintro e w4 ⟨rfl, rfl⟩
  go_wp2_with fail
  go_ret
  exact ⟨rfl, OA.out⟩
theorem imay_jump25 (nm : ByteArray) (FA : Option Addr) (nf cf : Nat) (L : Int) (A : Option Addr) (c : Nat) (a : Int) (r : Bool) (w : World) (hr : true = r) : Calls Tryz.prog 48 #[.agg #[.string nm, .slice FA nf cf], .int .i64 L, .agg #[.int .i64 25, .int .i64 a, .int .i64 0, .int .i64 0, .int .i64 0, .complex .f64 0 0, .string ⟨#[]⟩, .int .i64 0, .int .i64 0, .slice none 0 0, .slice A 0 c]] w fun e w' => e = .returned (.bool r) ∧ Only [] w w' := by
 have rs := store_com
 have HZ := Lib.hid (fun w => czy w)
 subst hr
 obtain ⟨BM, BI, O0⟩ := mk2 w 24 55 #[.string nm, .slice FA nf cf] #[.int .i64 25, .int .i64 a, .int .i64 0, .int .i64 0, .int .i64 0, .complex .f64 0 0, .string ⟨#[]⟩, .int .i64 0, .int .i64 0, .slice none 0 0, .slice A 0 c]
 obtain ⟨u1, u2, u3, u4, u5, u6, u7, u8, u9, u10⟩ := calm11 BI.out
 go_enter Tryz.func48, Tryz.ntmps48
 go_wp2_with fail
 refine wp_region_calm (by kernel_rfl) (by kernel_rfl) ?_
 repeat (go_big_quiet_step ((go_at_call 82; exact calmS (HZ.out _))))
 refine wpQuiet_nil ?_
 rintro w2 ⟨⟨w2', o2⟩, e2⟩
 obtain rfl : w2 = w2' := e2
 have OA := Lib.hid (O0.out.trans o2 (by simp))
 have BA := Lib.hid (BI.out.only o2 (by simp))
 have MA := Lib.hid (BM.out.only o2 (by simp))
 obtain ⟨x0, x1, x2, x3, x4, x5, x6, x7, x8, x9, x10⟩ := BA.out.elevenH
 have y0 := MA.out.cell0 (i := 0) rfl
 have y1 := MA.out.cell0 (i := 1) rfl
 clear u1 u2 u3 u4 u5 u6 u7 u8 u9 u10 o2
 go_wp2_with fail
 (with_reducible refine (isOp_yes _ (by first | decide | assumption) _).mono ?_)
 rintro e w4 ⟨rfl, rfl⟩
 go_wp2_with fail
 go_ret
 exact ⟨rfl, OA.out⟩
theorem imay_jump26 (nm : ByteArray) (FA : Option Addr) (nf cf : Nat) (L : Int) (A : Option Addr) (c : Nat) (a : Int) (r : Bool) (w : World) (hr : true = r) : Calls Tryz.prog 48 #[.agg #[.string nm, .slice FA nf cf], .int .i64 L, .agg #[.int .i64 26, .int .i64 a, .int .i64 0, .int .i64 0, .int .i64 0, .complex .f64 0 0, .string ⟨#[]⟩, .int .i64 0, .int .i64 0, .slice none 0 0, .slice A 0 c]] w fun e w' => e = .returned (.bool r) ∧ Only [] w w' := by
 have rs := store_com
 have HZ := Lib.hid (fun w => czy w)
 subst hr
 obtain ⟨BM, BI, O0⟩ := mk2 w 24 55 #[.string nm, .slice FA nf cf] #[.int .i64 26, .int .i64 a, .int .i64 0, .int .i64 0, .int .i64 0, .complex .f64 0 0, .string ⟨#[]⟩, .int .i64 0, .int .i64 0, .slice none 0 0, .slice A 0 c]
 obtain ⟨u1, u2, u3, u4, u5, u6, u7, u8, u9, u10⟩ := calm11 BI.out
 go_enter Tryz.func48, Tryz.ntmps48
 go_wp2_with fail
 refine wp_region_calm (by kernel_rfl) (by kernel_rfl) ?_
 repeat (go_big_quiet_step ((go_at_call 82; exact calmS (HZ.out _))))
 refine wpQuiet_nil ?_
 rintro w2 ⟨⟨w2', o2⟩, e2⟩
 obtain rfl : w2 = w2' := e2
 have OA := Lib.hid (O0.out.trans o2 (by simp))
 have BA := Lib.hid (BI.out.only o2 (by simp))
 have MA := Lib.hid (BM.out.only o2 (by simp))
 obtain ⟨x0, x1, x2, x3, x4, x5, x6, x7, x8, x9, x10⟩ := BA.out.elevenH
 have y0 := MA.out.cell0 (i := 0) rfl
 have y1 := MA.out.cell0 (i := 1) rfl
 clear u1 u2 u3 u4 u5 u6 u7 u8 u9 u10 o2
 go_wp2_with fail
 (with_reducible refine (isOp_yes _ (by first | decide | assumption) _).mono ?_)
 rintro e w4 ⟨rfl, rfl⟩
 go_wp2_with fail
 go_ret
 exact ⟨rfl, OA.out⟩
theorem imay_match (nm : ByteArray) (FA : Option Addr) (nf cf : Nat) (L : Int) (A : Option Addr) (c : Nat) (a : Int) (m : Nat) (l : List Arm) (F : Nat → Prop) (r : Bool) (w : World) (hg : ∀ a ∈ l, a.Good) (hv : AL w F l (.slice A m c)) (hF : ∀ b, F b → b < w.heap.size) (hk : KN w) (hr : armsOk L l = r) : Calls Tryz.prog 48 #[.agg #[.string nm, .slice FA nf cf], .int .i64 L, .agg #[.int .i64 27, .int .i64 a, .int .i64 0, .int .i64 0, .int .i64 0, .complex .f64 0 0, .string ⟨#[]⟩, .int .i64 0, .int .i64 0, .slice none 0 0, .slice A m c]] w fun e w' => e = .returned (.bool r) ∧ Only [] w w' := by
 have rs := store_com
 have HZ := Lib.hid (fun w => czy w)
 have HS := Lib.hid (fun w1 (o1 : Only [] w w1) => areArms_any L l hg (.slice A m c) F r w1 (hv.same o1) (fun b hb => Nat.lt_of_lt_of_le (hF b hb) o1.size) (hk.same o1) hr)
 clear hg hv hF hk hr
 cases r
 all_goals
  obtain ⟨BM, BI, O0⟩ := mk2 w 24 55 #[.string nm, .slice FA nf cf] #[.int .i64 27, .int .i64 a, .int .i64 0, .int .i64 0, .int .i64 0, .complex .f64 0 0, .string ⟨#[]⟩, .int .i64 0, .int .i64 0, .slice none 0 0, .slice A m c]
  obtain ⟨u1, u2, u3, u4, u5, u6, u7, u8, u9, u10⟩ := calm11 BI.out
  go_enter Tryz.func48, Tryz.ntmps48
  go_wp2_with fail
  refine wp_region_calm (by kernel_rfl) (by kernel_rfl) ?_
  repeat (go_big_quiet_step ((go_at_call 82; exact calmS (HZ.out _))))
  refine wpQuiet_nil ?_
  rintro w2 ⟨⟨w2', o2⟩, e2⟩
  obtain rfl : w2 = w2' := e2
  have OA := Lib.hid (O0.out.trans o2 (by simp))
  have BA := Lib.hid (BI.out.only o2 (by simp))
  have MA := Lib.hid (BM.out.only o2 (by simp))
  obtain ⟨x0, x1, x2, x3, x4, x5, x6, x7, x8, x9, x10⟩ := BA.out.elevenH
  have y0 := MA.out.cell0 (i := 0) rfl
  have y1 := MA.out.cell0 (i := 1) rfl
  clear u1 u2 u3 u4 u5 u6 u7 u8 u9 u10 o2
  go_wp2_with fail
  (with_reducible refine (HS.out _ OA.out).mono ?_)
  rintro e w3 ⟨rfl, o3⟩
  have O3 := Lib.hid (OA.out.trans o3 (by simp))
  have B3 := Lib.hid (BA.out.only o3 (by simp))
  have k0 := B3.out.cell0 (i := 0) rfl
  clear o3
  go_wp2_with fail
  (with_reducible refine (isOp_yes _ (by first | decide | assumption) _).mono ?_)
  rintro e w4 ⟨rfl, rfl⟩
  go_wp2_with fail
  go_ret
  exact ⟨rfl, O3.out⟩
theorem imay_call (nm : ByteArray) (FA : Option Addr) (nf cf : Nat) (L : Int) (A : Option Addr) (c : Nat) (a : Int) (r : Bool) (w : World) (hn : nf ≤ 262144) (ha : 0 ≤ a) (hr : decide (a < (nf : Int)) = r) : Calls Tryz.prog 48 #[.agg #[.string nm, .slice FA nf cf], .int .i64 L, .agg #[.int .i64 28, .int .i64 a, .int .i64 0, .int .i64 0, .int .i64 0, .complex .f64 0 0, .string ⟨#[]⟩, .int .i64 0, .int .i64 0, .slice none 0 0, .slice A 0 c]] w fun e w' => e = .returned (.bool r) ∧ Only [] w w' := by
 have rs := store_com
 have HZ := Lib.hid (fun w => czy w)
 have HS := Lib.hid (fun w1 => hasFunc_any nm FA nf cf a r w1 hn ha hr)
 clear hr
 cases r
 all_goals
  obtain ⟨BM, BI, O0⟩ := mk2 w 24 55 #[.string nm, .slice FA nf cf] #[.int .i64 28, .int .i64 a, .int .i64 0, .int .i64 0, .int .i64 0, .complex .f64 0 0, .string ⟨#[]⟩, .int .i64 0, .int .i64 0, .slice none 0 0, .slice A 0 c]
  obtain ⟨u1, u2, u3, u4, u5, u6, u7, u8, u9, u10⟩ := calm11 BI.out
  go_enter Tryz.func48, Tryz.ntmps48
  go_wp2_with fail
  refine wp_region_calm (by kernel_rfl) (by kernel_rfl) ?_
  repeat (go_big_quiet_step ((go_at_call 82; exact calmS (HZ.out _))))
  refine wpQuiet_nil ?_
  rintro w2 ⟨⟨w2', o2⟩, e2⟩
  obtain rfl : w2 = w2' := e2
  have OA := Lib.hid (O0.out.trans o2 (by simp))
  have BA := Lib.hid (BI.out.only o2 (by simp))
  have MA := Lib.hid (BM.out.only o2 (by simp))
  obtain ⟨x0, x1, x2, x3, x4, x5, x6, x7, x8, x9, x10⟩ := BA.out.elevenH
  have y0 := MA.out.cell0 (i := 0) rfl
  have y1 := MA.out.cell0 (i := 1) rfl
  clear u1 u2 u3 u4 u5 u6 u7 u8 u9 u10 o2
  have m0 := MA.out.cell0 (i := 0) rfl
  have m1 := MA.out.cell0 (i := 1) rfl
  go_wp2_with fail
  (with_reducible refine (HS.out _).mono ?_)
  rintro e w3 ⟨rfl, o3⟩
  have O3 := Lib.hid (OA.out.trans o3 (by simp))
  have B3 := Lib.hid (BA.out.only o3 (by simp))
  have k0 := B3.out.cell0 (i := 0) rfl
  clear o3
  go_wp2_with fail
  (with_reducible refine (isOp_yes _ (by first | decide | assumption) _).mono ?_)
  rintro e w4 ⟨rfl, rfl⟩
  go_wp2_with fail
  go_ret
  exact ⟨rfl, O3.out⟩
theorem imay_recv_z (nm : ByteArray) (FA : Option Addr) (nf cf : Nat) (L : Int) (A : Option Addr) (c : Nat) (b : Int) (m : Nat) (l : List Arm) (F : Nat → Prop) (r1 r2 : Bool) (r : Bool) (w : World) (hga : ∀ a ∈ l, a.Good) (hv : AL w F l (.slice A m c)) (hF : ∀ b, F b → b < w.heap.size) (hk : KN w) (hr1 : (decide (-1 ≤ b) && decide (b ≤ 1048576)) = r1) (hr2 : armsOk L l = r2) (hr : (r1 && r2) = r) : Calls Tryz.prog 48 #[.agg #[.string nm, .slice FA nf cf], .int .i64 L, .agg #[.int .i64 33, .int .i64 0, .int .i64 b, .int .i64 0, .int .i64 0, .complex .f64 0 0, .string ⟨#[]⟩, .int .i64 0, .int .i64 0, .slice none 0 0, .slice A m c]] w fun e w' => e = .returned (.bool r) ∧ Only [] w w' := by
 have rs := store_com
 have HZ := Lib.hid (fun w => czy w)
 have HS := Lib.hid (fun w1 (o1 : Only [] w w1) => areArms_any L l hga (.slice A m c) F r2 w1 (hv.same o1) (fun b hb => Nat.lt_of_lt_of_le (hF b hb) o1.size) (hk.same o1) hr2)
 have HW := Lib.hid (fun w => isWithin_any b (-1) 1048576 w)
 rw [hr1] at HW
 have HR := Lib.hid hr
 clear hga hv hF hk hr1 hr2 hr
 cases r1 <;> cases r2
 all_goals
  obtain ⟨BM, BI, O0⟩ := mk2 w 24 55 #[.string nm, .slice FA nf cf] #[.int .i64 33, .int .i64 0, .int .i64 b, .int .i64 0, .int .i64 0, .complex .f64 0 0, .string ⟨#[]⟩, .int .i64 0, .int .i64 0, .slice none 0 0, .slice A m c]
  obtain ⟨u1, u2, u3, u4, u5, u6, u7, u8, u9, u10⟩ := calm11 BI.out
  go_enter Tryz.func48, Tryz.ntmps48
  go_wp2_with fail
  refine wp_region_calm (by kernel_rfl) (by kernel_rfl) ?_
  repeat (go_big_quiet_step ((go_at_call 82; exact calmS (HZ.out _))))
  refine wpQuiet_nil ?_
  rintro w2 ⟨⟨w2', o2⟩, e2⟩
  obtain rfl : w2 = w2' := e2
  have OA := Lib.hid (O0.out.trans o2 (by simp))
  have BA := Lib.hid (BI.out.only o2 (by simp))
  have MA := Lib.hid (BM.out.only o2 (by simp))
  obtain ⟨x0, x1, x2, x3, x4, x5, x6, x7, x8, x9, x10⟩ := BA.out.elevenH
  have y0 := MA.out.cell0 (i := 0) rfl
  have y1 := MA.out.cell0 (i := 1) rfl
  clear u1 u2 u3 u4 u5 u6 u7 u8 u9 u10 o2
  go_wp2_with fail
  have v2 : ∀ x : Cm w2, x.1.cell? ⟨w.heap.size + 1, 2, none⟩ = some (.int .i64 b) := fun x => (BA.out.only x.o (by simp)).cell0 rfl
  have v10 : ∀ x : Cm w2, x.1.cell? ⟨w.heap.size + 1, 10, none⟩ = some (.slice A m c) := fun x => (BA.out.only x.o (by simp)).cell0 rfl
  have KS := Lib.hid (fun x : Cm w2 => HS.out x.1 (OA.out.trans x.o (by simp)))
  refine wp_region_calm (by kernel_rfl) (by kernel_rfl) ?_
  repeat (go_big_quiet_step ((first | (go_at_call 23; exact calmE (HW.out _)) | (go_at_call 83; exact calmS (KS.out _)))))
  refine wpQuiet_nil ?_
  rintro w3 ⟨⟨w3', o3⟩, e3⟩
  obtain rfl : w3 = w3' := e3
  have O3 := Lib.hid (OA.out.trans o3 (by simp))
  have B3 := Lib.hid (BA.out.only o3 (by simp))
  have k0 := B3.out.cell0 (i := 0) rfl
  clear v2 v10 o3
  go_wp2_with fail
  (with_reducible refine (isOp_yes _ (by first | decide | assumption) _).mono ?_)
  rintro e w4 ⟨rfl, rfl⟩
  go_wp2_with fail
  go_ret
  exact ⟨ret_bool HR.out, O3.out⟩
theorem imay_recv_p (nm : ByteArray) (FA : Option Addr) (nf cf : Nat) (L : Int) (A : Option Addr) (c : Nat) (a b : Int) (m : Nat) (l : List Arm) (F : Nat → Prop) (r1 r2 : Bool) (r : Bool) (w : World) (hga : ∀ a ∈ l, a.Good) (hv : AL w F l (.slice A m c)) (hF : ∀ b, F b → b < w.heap.size) (hk : KN w) (ha : a ≠ 0) (hr1 : (decide (-1 ≤ b) && decide (b ≤ 1048576)) = r1) (hr2 : armsOk L l = r2) (hr : (decide (b ≠ -1) && r1 && r2) = r) : Calls Tryz.prog 48 #[.agg #[.string nm, .slice FA nf cf], .int .i64 L, .agg #[.int .i64 33, .int .i64 a, .int .i64 b, .int .i64 0, .int .i64 0, .complex .f64 0 0, .string ⟨#[]⟩, .int .i64 0, .int .i64 0, .slice none 0 0, .slice A m c]] w fun e w' => e = .returned (.bool r) ∧ Only [] w w' := by
 have rs := store_com
 have HZ := Lib.hid (fun w => czy w)
 have HS := Lib.hid (fun w1 (o1 : Only [] w w1) => areArms_any L l hga (.slice A m c) F r2 w1 (hv.same o1) (fun b hb => Nat.lt_of_lt_of_le (hF b hb) o1.size) (hk.same o1) hr2)
 have HW := Lib.hid (fun w => isWithin_any b (-1) 1048576 w)
 rw [hr1] at HW
 have e0 : (a == 0) = false := by simpa using ha
 have eb : (b != -1) = decide (b ≠ -1) := by by_cases h : b = -1 <;> simp [h]
 obtain ⟨r3, hr3⟩ : ∃ r3, decide (b ≠ -1) = r3 := ⟨_, rfl⟩
 rw [hr3] at eb hr
 clear hr3 ha
 have HR := Lib.hid hr
 clear hga hv hF hk hr1 hr2 hr
 cases r1 <;> cases r2 <;> cases r3
 all_goals
  obtain ⟨BM, BI, O0⟩ := mk2 w 24 55 #[.string nm, .slice FA nf cf] #[.int .i64 33, .int .i64 a, .int .i64 b, .int .i64 0, .int .i64 0, .complex .f64 0 0, .string ⟨#[]⟩, .int .i64 0, .int .i64 0, .slice none 0 0, .slice A m c]
  obtain ⟨u1, u2, u3, u4, u5, u6, u7, u8, u9, u10⟩ := calm11 BI.out
  go_enter Tryz.func48, Tryz.ntmps48
  go_wp2_with fail
  refine wp_region_calm (by kernel_rfl) (by kernel_rfl) ?_
  repeat (go_big_quiet_step ((go_at_call 82; exact calmS (HZ.out _))))
  refine wpQuiet_nil ?_
  rintro w2 ⟨⟨w2', o2⟩, e2⟩
  obtain rfl : w2 = w2' := e2
  have OA := Lib.hid (O0.out.trans o2 (by simp))
  have BA := Lib.hid (BI.out.only o2 (by simp))
  have MA := Lib.hid (BM.out.only o2 (by simp))
  obtain ⟨x0, x1, x2, x3, x4, x5, x6, x7, x8, x9, x10⟩ := BA.out.elevenH
  have y0 := MA.out.cell0 (i := 0) rfl
  have y1 := MA.out.cell0 (i := 1) rfl
  clear u1 u2 u3 u4 u5 u6 u7 u8 u9 u10 o2
  go_wp2_with fail
  have v2 : ∀ x : Cm w2, x.1.cell? ⟨w.heap.size + 1, 2, none⟩ = some (.int .i64 b) := fun x => (BA.out.only x.o (by simp)).cell0 rfl
  have v10 : ∀ x : Cm w2, x.1.cell? ⟨w.heap.size + 1, 10, none⟩ = some (.slice A m c) := fun x => (BA.out.only x.o (by simp)).cell0 rfl
  have KS := Lib.hid (fun x : Cm w2 => HS.out x.1 (OA.out.trans x.o (by simp)))
  refine wp_region_calm (by kernel_rfl) (by kernel_rfl) ?_
  repeat (go_big_quiet_step ((first | (go_at_call 23; exact calmE (HW.out _)) | (go_at_call 83; exact calmS (KS.out _)))))
  refine wpQuiet_nil ?_
  rintro w3 ⟨⟨w3', o3⟩, e3⟩
  obtain rfl : w3 = w3' := e3
  have O3 := Lib.hid (OA.out.trans o3 (by simp))
  have B3 := Lib.hid (BA.out.only o3 (by simp))
  have k0 := B3.out.cell0 (i := 0) rfl
  clear v2 v10 o3
  go_wp2_with fail
  (with_reducible refine (isOp_yes _ (by first | decide | assumption) _).mono ?_)
  rintro e w4 ⟨rfl, rfl⟩
  go_wp2_with fail
  go_ret
  exact ⟨ret_bool HR.out, O3.out⟩
theorem imay_spawn (nm : ByteArray) (FA : Option Addr) (nf cf : Nat) (L : Int) (A : Option Addr) (c : Nat) (a b : Int) (r1 r2 : Bool) (r : Bool) (w : World) (hn : nf ≤ 262144) (ha : 0 ≤ a) (hr1 : decide (a < (nf : Int)) = r1) (hr2 : (decide (0 ≤ b) && decide (b ≤ 2)) = r2) (hr : (r1 && r2) = r) : Calls Tryz.prog 48 #[.agg #[.string nm, .slice FA nf cf], .int .i64 L, .agg #[.int .i64 34, .int .i64 a, .int .i64 b, .int .i64 0, .int .i64 0, .complex .f64 0 0, .string ⟨#[]⟩, .int .i64 0, .int .i64 0, .slice none 0 0, .slice A 0 c]] w fun e w' => e = .returned (.bool r) ∧ Only [] w w' := by
 have rs := store_com
 have HZ := Lib.hid (fun w => czy w)
 have HS := Lib.hid (fun w1 => hasFunc_any nm FA nf cf a r1 w1 hn ha hr1)
 have HW := Lib.hid (fun w => isWithin_any b 0 2 w)
 rw [hr2] at HW
 have HR := Lib.hid hr
 clear hn ha hr1 hr2 hr
 cases r1 <;> cases r2
 all_goals
  obtain ⟨BM, BI, O0⟩ := mk2 w 24 55 #[.string nm, .slice FA nf cf] #[.int .i64 34, .int .i64 a, .int .i64 b, .int .i64 0, .int .i64 0, .complex .f64 0 0, .string ⟨#[]⟩, .int .i64 0, .int .i64 0, .slice none 0 0, .slice A 0 c]
  obtain ⟨u1, u2, u3, u4, u5, u6, u7, u8, u9, u10⟩ := calm11 BI.out
  go_enter Tryz.func48, Tryz.ntmps48
  go_wp2_with fail
  refine wp_region_calm (by kernel_rfl) (by kernel_rfl) ?_
  repeat (go_big_quiet_step ((go_at_call 82; exact calmS (HZ.out _))))
  refine wpQuiet_nil ?_
  rintro w2 ⟨⟨w2', o2⟩, e2⟩
  obtain rfl : w2 = w2' := e2
  have OA := Lib.hid (O0.out.trans o2 (by simp))
  have BA := Lib.hid (BI.out.only o2 (by simp))
  have MA := Lib.hid (BM.out.only o2 (by simp))
  obtain ⟨x0, x1, x2, x3, x4, x5, x6, x7, x8, x9, x10⟩ := BA.out.elevenH
  have y0 := MA.out.cell0 (i := 0) rfl
  have y1 := MA.out.cell0 (i := 1) rfl
  clear u1 u2 u3 u4 u5 u6 u7 u8 u9 u10 o2
  go_wp2_with fail
  have v0 : ∀ x : Cm w2, x.1.cell? ⟨w.heap.size, 0, none⟩ = some (.string nm) := fun x => (MA.out.only x.o (by simp)).cell0 rfl
  have v3 : ∀ x : Cm w2, x.1.cell? ⟨w.heap.size, 1, none⟩ = some (.slice FA nf cf) := fun x => (MA.out.only x.o (by simp)).cell0 rfl
  have v1 : ∀ x : Cm w2, x.1.cell? ⟨w.heap.size + 1, 1, none⟩ = some (.int .i64 a) := fun x => (BA.out.only x.o (by simp)).cell0 rfl
  have v2 : ∀ x : Cm w2, x.1.cell? ⟨w.heap.size + 1, 2, none⟩ = some (.int .i64 b) := fun x => (BA.out.only x.o (by simp)).cell0 rfl
  refine wp_region_calm (by kernel_rfl) (by kernel_rfl) ?_
  repeat (go_big_quiet_step ((first | (go_at_call 23; exact calmE (HW.out _)) | (go_at_call 84; exact calmS (HS.out _)))))
  refine wpQuiet_nil ?_
  rintro w3 ⟨⟨w3', o3⟩, e3⟩
  obtain rfl : w3 = w3' := e3
  have O3 := Lib.hid (OA.out.trans o3 (by simp))
  have B3 := Lib.hid (BA.out.only o3 (by simp))
  have k0 := B3.out.cell0 (i := 0) rfl
  clear v0 v1 v2 v3 o3
  go_wp2_with fail
  (with_reducible refine (isOp_yes _ (by first | decide | assumption) _).mono ?_)
  rintro e w4 ⟨rfl, rfl⟩
  go_wp2_with fail
  go_ret
  exact ⟨ret_bool HR.out, O3.out⟩
theorem imay_rest (nm : ByteArray) (FA : Option Addr) (nf cf : Nat) (L : Int) (A : Option Addr) (c : Nat) (op : Int) (r : Bool) (w : World) (ho : isOpB op = true) (h1 : (op == 1) = false) (h3 : (op == 3) = false) (h4 : (op == 4) = false) (h5 : (op == 5) = false) (h17 : (op == 17) = false) (h18 : (op == 18) = false) (h19 : (op == 19) = false) (h25 : (op == 25) = false) (h26 : (op == 26) = false) (h27 : (op == 27) = false) (h28 : (op == 28) = false) (h33 : (op == 33) = false) (h34 : (op == 34) = false) (hr : true = r) : Calls Tryz.prog 48 #[.agg #[.string nm, .slice FA nf cf], .int .i64 L, .agg #[.int .i64 op, .int .i64 0, .int .i64 0, .int .i64 0, .int .i64 0, .complex .f64 0 0, .string ⟨#[]⟩, .int .i64 0, .int .i64 0, .slice none 0 0, .slice A 0 c]] w fun e w' => e = .returned (.bool r) ∧ Only [] w w' := by
 have rs := store_com
 have HZ := Lib.hid (fun w => czy w)
 subst hr
 obtain ⟨BM, BI, O0⟩ := mk2 w 24 55 #[.string nm, .slice FA nf cf] #[.int .i64 op, .int .i64 0, .int .i64 0, .int .i64 0, .int .i64 0, .complex .f64 0 0, .string ⟨#[]⟩, .int .i64 0, .int .i64 0, .slice none 0 0, .slice A 0 c]
 obtain ⟨u1, u2, u3, u4, u5, u6, u7, u8, u9, u10⟩ := calm11 BI.out
 go_enter Tryz.func48, Tryz.ntmps48
 go_wp2_with fail
 refine wp_region_calm (by kernel_rfl) (by kernel_rfl) ?_
 repeat (go_big_quiet_step ((go_at_call 82; exact calmS (HZ.out _))))
 refine wpQuiet_nil ?_
 rintro w2 ⟨⟨w2', o2⟩, e2⟩
 obtain rfl : w2 = w2' := e2
 have OA := Lib.hid (O0.out.trans o2 (by simp))
 have BA := Lib.hid (BI.out.only o2 (by simp))
 have MA := Lib.hid (BM.out.only o2 (by simp))
 obtain ⟨x0, x1, x2, x3, x4, x5, x6, x7, x8, x9, x10⟩ := BA.out.elevenH
 have y0 := MA.out.cell0 (i := 0) rfl
 have y1 := MA.out.cell0 (i := 1) rfl
 clear u1 u2 u3 u4 u5 u6 u7 u8 u9 u10 o2
 go_wp2_with fail
 have k0 := BA.out.cell0 (i := 0) rfl
 go_wp2_with fail
 (with_reducible refine (isOp_yes _ (by first | decide | assumption) _).mono ?_)
 rintro e w4 ⟨rfl, rfl⟩
 go_wp2_with fail
 go_ret
 exact ⟨rfl, OA.out⟩
end Go.Proofs.YtcdefnbehlcgeaaGreatDoor
