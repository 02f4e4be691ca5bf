/- The small module in memory; it is made; its function and its instructions may be. -/
import Derived.Test.YtgpgcjdneikokaaDoorN3
namespace Go.Proofs.YtgpgcjdneikokaaDoor
open Go.RowKit

theorem store_com (w : World) (a : Addr) (m : Mode) (k : FloatKind) (x y : Nat) : (store a (.complex k x y) m).run Tryd.prog w = stored Tryd.prog w a (.complex k x y) m := run_store Tryd.prog w a _ m rfl
abbrev cod : Array Value := #[.int .i64 1, .int .i64 0, .int .i64 0, .int .i64 3, .int .i64 1, .complex .f64 0 0, .string ⟨#[]⟩, .int .i64 0, .int .i64 0, .slice none 0 0, .slice none 0 0, .int .i64 29, .int .i64 0, .int .i64 0, .int .i64 0, .int .i64 0, .complex .f64 0 0, .string ⟨#[]⟩, .int .i64 0, .int .i64 0, .slice none 0 0, .slice none 0 0]
abbrev fcs (cb n : Nat) : Array Value := #[.string ⟨#[102]⟩, .int .i64 0, .int .i64 0, .slice (some ⟨cb, 0, none⟩) n 2]
abbrev md (fb : Nat) : Array Value := #[.string ⟨#[109]⟩, .slice (some ⟨fb, 0, none⟩) 1 1]
/-- The module lies in memory: its function's block, its code's block; of the code n instructions. -/
structure Sm (w : World) (fb cb n : Nat) : Prop where
  f : Bk w fb 52 (fcs cb n)
  c : Bk w cb 35 cod
theorem Sm.only {S : List Nat} {w w' : World} {fb cb n : Nat} (h : Sm w fb cb n) (o : Only S w w') (h1 : fb ∉ S) (h2 : cb ∉ S) : Sm w' fb cb n := ⟨h.f.only o h1, h.c.only o h2⟩
theorem Sm.same {w w' : World} {fb cb n : Nat} (h : Sm w fb cb n) (o : Only [] w w') : Sm w' fb cb n := h.only o (by simp) (by simp)
theorem Sm.alloc {w : World} {fb cb n : Nat} (h : Sm w fb cb n) (o : Obj) : Sm (w.alloc o) fb cb n := ⟨h.f.alloc o, h.c.alloc o⟩
theorem Sm.drew {w : World} {fb cb n : Nat} (h : Sm w fb cb n) : Sm w.drew fb cb n := ⟨h.f, h.c⟩
theorem Sm.fs {w : World} {fb cb n : Nat} (h : Sm w fb cb n) : w.cell? ⟨fb, 0, none⟩ = some (.string ⟨#[102]⟩) ∧ w.cell? ⟨fb, 1, none⟩ = some (.int .i64 0) ∧ w.cell? ⟨fb, 2, none⟩ = some (.int .i64 0) ∧ w.cell? ⟨fb, 3, none⟩ = some (.slice (some ⟨cb, 0, none⟩) n 2) :=
  ⟨h.f.cell0 rfl, h.f.cell0 rfl, h.f.cell0 rfl, h.f.cell0 rfl⟩
theorem Sm.cs {w : World} {fb cb n : Nat} (h : Sm w fb cb n) : w.cell? ⟨cb, 0, none⟩ = some (.int .i64 1) ∧ w.cell? ⟨cb, 1, none⟩ = some (.int .i64 0) ∧ w.cell? ⟨cb, 2, none⟩ = some (.int .i64 0) ∧ w.cell? ⟨cb, 3, none⟩ = some (.int .i64 3) ∧ w.cell? ⟨cb, 4, none⟩ = some (.int .i64 1) ∧ w.cell? ⟨cb, 5, none⟩ = some (.complex .f64 0 0) ∧ w.cell? ⟨cb, 6, none⟩ = some (.string ⟨#[]⟩) ∧ w.cell? ⟨cb, 7, none⟩ = some (.int .i64 0) ∧ w.cell? ⟨cb, 8, none⟩ = some (.int .i64 0) ∧ w.cell? ⟨cb, 9, none⟩ = some (.slice none 0 0) ∧ w.cell? ⟨cb, 10, none⟩ = some (.slice none 0 0) ∧ w.cell? ⟨cb, 11, none⟩ = some (.int .i64 29) ∧ w.cell? ⟨cb, 12, none⟩ = some (.int .i64 0) ∧ w.cell? ⟨cb, 13, none⟩ = some (.int .i64 0) ∧ w.cell? ⟨cb, 14, none⟩ = some (.int .i64 0) ∧ w.cell? ⟨cb, 15, none⟩ = some (.int .i64 0) ∧ w.cell? ⟨cb, 16, none⟩ = some (.complex .f64 0 0) ∧ w.cell? ⟨cb, 17, none⟩ = some (.string ⟨#[]⟩) ∧ w.cell? ⟨cb, 18, none⟩ = some (.int .i64 0) ∧ w.cell? ⟨cb, 19, none⟩ = some (.int .i64 0) ∧ w.cell? ⟨cb, 20, none⟩ = some (.slice none 0 0) ∧ w.cell? ⟨cb, 21, none⟩ = some (.slice none 0 0) :=
  ⟨h.c.cell0 (i := 0) rfl, h.c.cell0 (i := 1) rfl, h.c.cell0 (i := 2) rfl, h.c.cell0 (i := 3) rfl, h.c.cell0 (i := 4) rfl, h.c.cell0 (i := 5) rfl, h.c.cell0 (i := 6) rfl, h.c.cell0 (i := 7) rfl, h.c.cell0 (i := 8) rfl, h.c.cell0 (i := 9) rfl, h.c.cell0 (i := 10) rfl, h.c.cell0 (i := 11) rfl, h.c.cell0 (i := 12) rfl, h.c.cell0 (i := 13) rfl, h.c.cell0 (i := 14) rfl, h.c.cell0 (i := 15) rfl, h.c.cell0 (i := 16) rfl, h.c.cell0 (i := 17) rfl, h.c.cell0 (i := 18) rfl, h.c.cell0 (i := 19) rfl, h.c.cell0 (i := 20) rfl, h.c.cell0 (i := 21) rfl⟩
set_option maxRecDepth 20000 in
set_option maxHeartbeats 1000000 in
theorem small_any (w : World) : Calls Tryd.prog 10 #[] w fun e w' => ∃ fb cb, e = .returned (.agg (md fb)) ∧ w.heap.size ≤ fb ∧ w.heap.size ≤ cb ∧ fb ≠ cb ∧ Sm w' fb cb 2 ∧ Only [] w w' := by
  go_enter Tryd.func10, Tryd.ntmps10
  go_wp2_with fail
  have b0 := ((Bk.made w 45 (md (w.heap.size + 1 + 1))).alloc (.cells cod 35)).alloc (.cells (fcs (w.heap.size + 1) 2) 52)
  have r0 := b0.cell0 (i := 0) rfl
  have r1 := b0.cell0 (i := 1) rfl
  have b1 := (Bk.madeAt (w := w.alloc (.cells (md (w.heap.size + 1 + 1)) 45)) (t := 35) (cs := cod) (b := w.heap.size + 1) (by simp)).alloc (.cells (fcs (w.heap.size + 1) 2) 52)
  have b2 := Bk.madeAt (w := (w.alloc (.cells (md (w.heap.size + 1 + 1)) 45)).alloc (.cells cod 35)) (t := 52) (cs := fcs (w.heap.size + 1) 2) (b := w.heap.size + 1 + 1) (by simp)
  exact bodyPost_ret (v := .agg (md (w.heap.size + 1 + 1))) (by simp [results, Tryd.results10, go_sem, r0, r1]) rfl ⟨_, _, rfl, by omega, by omega, by omega, ⟨b2, b1⟩, (((Only.refl [] w).alloc _).alloc _).alloc _⟩
set_option maxRecDepth 20000 in
set_option maxHeartbeats 1000000 in
theorem func_may (w : World) (fb cb n : Nat) (hn : n = 1 ∨ n = 2) (hs : Sm w fb cb n) : Calls Tryd.prog 15 #[.agg (md fb), .int .i64 0] w fun e w' => e = .returned (.bool true) ∧ Only [] w w' := by
  have HA := Lib.hid (fun w => cname_yes ⟨#[102]⟩ (.inr rfl) w)
  have HS := Lib.hid hs
  have F1 := fun o => (hs.alloc o).fs
  obtain ⟨f0, f1, f2, f3⟩ := (hs.alloc (.cells (md fb) 45)).fs
  have B2 := Lib.hid (Bk.madeAt (w := w.alloc (.cells (md fb) 45)) (t := 52) (cs := fcs cb n) (b := w.heap.size + 1) (by simp))
  have O2 := Lib.hid (((Only.refl [] w).alloc (.cells (md fb) 45)).alloc (.cells (fcs cb n) 52))
  clear hs F1
  rcases hn with rfl | rfl
  all_goals
    go_enter Tryd.func15, Tryd.ntmps15
    go_wp2_with fail
    refine wp_loop_rounds 1 ?_
    rw [rounds_succ]
    go_wp2_with fail
    (with_reducible refine (HA.out _).mono ?_)
    rintro e w2 ⟨rfl, o2⟩
    have O3 := Lib.hid (O2.out.trans o2 (by simp))
    have B3 := Lib.hid (B2.out.only o2 (by simp))
    have g1 := B3.out.cell0 (i := 1) rfl
    have g2 := B3.out.cell0 (i := 2) rfl
    have g3 := B3.out.cell0 (i := 3) rfl
    clear o2
    go_wp2
    go_ret
    exact ⟨rfl, O3.out⟩
set_option maxRecDepth 20000 in
set_option maxHeartbeats 4000000 in
theorem instrs_may (w : World) (fb cb n : Nat) (hn : n = 1 ∨ n = 2) (hs : Sm w fb cb n) : Calls Tryd.prog 16 #[.agg (md fb), .int .i64 0] w fun e w' => e = .returned (.tuple #[.int .i64 0, .int .i64 0]) ∧ Only [] w w' := by
  have rs := store_com
  have HP := Lib.hid (fun m w => may_push m w)
  have HR := Lib.hid (fun m w => may_ret m w)
  have HJ := Lib.hid (fun w => jumps_none 1 3 1 (.inl ⟨rfl, rfl, rfl⟩) w)
  have HK := Lib.hid (fun w => jumps_none 29 0 0 (.inr ⟨rfl, rfl, rfl⟩) w)
  obtain ⟨f0, f1, f2, f3⟩ := (hs.alloc (.cells (md fb) 45)).fs
  have HS := Lib.hid ((hs.alloc (.cells (md fb) 45)).alloc (.cells (fcs cb n) 52))
  have B1 := Lib.hid ((Bk.made w 45 (md fb)).alloc (.cells (fcs cb n) 52))
  have B2 := Lib.hid (Bk.madeAt (w := w.alloc (.cells (md fb) 45)) (t := 52) (cs := fcs cb n) (b := w.heap.size + 1) (by simp))
  have O2 := Lib.hid (((Only.refl [] w).alloc (.cells (md fb) 45)).alloc (.cells (fcs cb n) 52))
  clear hs
  rcases hn with rfl | rfl
  · go_enter Tryd.func16, Tryd.ntmps16
    go_wp2_with fail
    generalize hW : (w.alloc (.cells (md fb) 45)).alloc (.cells _ 52) = W at *
    clear hW
    refine wp_loop_rounds 2 ?_
    obtain ⟨c0, c1, c2, c3, c4, c5, c6, c7, c8, c9, c10, c11, c12, c13, c14, c15, c16, c17, c18, c19, c20, c21⟩ := HS.out.cs
    have m10 := (B1.out.alloc (.cells (ins 1 3 1) 35)).cell0 (i := 0) rfl
    have m11 := (B1.out.alloc (.cells (ins 1 3 1) 35)).cell0 (i := 1) rfl
    have g12 := (B2.out.alloc (.cells (ins 1 3 1) 35)).cell0 (i := 2) rfl
    have BI1 := Lib.hid (Bk.made W 35 (ins 1 3 1))
    have OI1 := Lib.hid ((Only.refl [] W).alloc (.cells (ins 1 3 1) 35))
    rw [rounds_succ]
    go_wp2_with fail
    (with_reducible refine (HP.out _ _).mono ?_)
    rintro e V1 ⟨rfl, o3⟩
    have OV1 := Lib.hid (OI1.out.trans o3 (by simp))
    have BV1 := Lib.hid (BI1.out.only o3 (by simp))
    obtain ⟨i10, i11, i12, i13, i14, i15, i16, i17, i18, i19, i110⟩ := BV1.out.eleven
    clear o3
    go_wp2_with fail
    (with_reducible refine (HJ.out _).mono ?_)
    rintro e U1 ⟨rfl, o3⟩
    have OU1 := Lib.hid (OV1.out.trans o3 (by simp))
    have HS1 := Lib.hid (HS.out.same OU1.out)
    have BA1 := Lib.hid (B1.out.only OU1.out (by simp))
    have BB1 := Lib.hid (B2.out.only OU1.out (by simp))
    have O1 := Lib.hid (O2.out.trans OU1.out (by simp))
    clear o3 c0 c1 c2 c3 c4 c5 c6 c7 c8 c9 c10 c11 c12 c13 c14 c15 c16 c17 c18 c19 c20 c21
    go_wp2_with fail
    refine wp_loop_rounds 1 ?_
    rw [rounds_succ]
    go_wp2_with fail
    rw [rounds_succ]
    go_wp2_with fail
    exact bodyPost_ret (v := .tuple #[.int .i64 0, .int .i64 0]) (by simp [results, Tryd.results16, go_sem]) rfl ⟨rfl, O1.out⟩
  · go_enter Tryd.func16, Tryd.ntmps16
    go_wp2_with fail
    generalize hW : (w.alloc (.cells (md fb) 45)).alloc (.cells _ 52) = W at *
    clear hW
    refine wp_loop_rounds 3 ?_
    obtain ⟨c0, c1, c2, c3, c4, c5, c6, c7, c8, c9, c10, c11, c12, c13, c14, c15, c16, c17, c18, c19, c20, c21⟩ := HS.out.cs
    have m10 := (B1.out.alloc (.cells (ins 1 3 1) 35)).cell0 (i := 0) rfl
    have m11 := (B1.out.alloc (.cells (ins 1 3 1) 35)).cell0 (i := 1) rfl
    have g12 := (B2.out.alloc (.cells (ins 1 3 1) 35)).cell0 (i := 2) rfl
    have BI1 := Lib.hid (Bk.made W 35 (ins 1 3 1))
    have OI1 := Lib.hid ((Only.refl [] W).alloc (.cells (ins 1 3 1) 35))
    rw [rounds_succ]
    go_wp2_with fail
    (with_reducible refine (HP.out _ _).mono ?_)
    rintro e V1 ⟨rfl, o3⟩
    have OV1 := Lib.hid (OI1.out.trans o3 (by simp))
    have BV1 := Lib.hid (BI1.out.only o3 (by simp))
    obtain ⟨i10, i11, i12, i13, i14, i15, i16, i17, i18, i19, i110⟩ := BV1.out.eleven
    clear o3
    go_wp2_with fail
    (with_reducible refine (HJ.out _).mono ?_)
    rintro e U1 ⟨rfl, o3⟩
    have OU1 := Lib.hid (OV1.out.trans o3 (by simp))
    have HS1 := Lib.hid (HS.out.same OU1.out)
    have BA1 := Lib.hid (B1.out.only OU1.out (by simp))
    have BB1 := Lib.hid (B2.out.only OU1.out (by simp))
    have O1 := Lib.hid (O2.out.trans OU1.out (by simp))
    clear o3 c0 c1 c2 c3 c4 c5 c6 c7 c8 c9 c10 c11 c12 c13 c14 c15 c16 c17 c18 c19 c20 c21
    go_wp2_with fail
    refine wp_loop_rounds 1 ?_
    rw [rounds_succ]
    go_wp2_with fail
    obtain ⟨c0, c1, c2, c3, c4, c5, c6, c7, c8, c9, c10, c11, c12, c13, c14, c15, c16, c17, c18, c19, c20, c21⟩ := HS1.out.cs
    have m30 := (BA1.out.alloc (.cells (ins 29 0 0) 35)).cell0 (i := 0) rfl
    have m31 := (BA1.out.alloc (.cells (ins 29 0 0) 35)).cell0 (i := 1) rfl
    have g32 := (BB1.out.alloc (.cells (ins 29 0 0) 35)).cell0 (i := 2) rfl
    have BI3 := Lib.hid (Bk.made U1 35 (ins 29 0 0))
    have OI3 := Lib.hid ((Only.refl [] U1).alloc (.cells (ins 29 0 0) 35))
    rw [rounds_succ]
    go_wp2_with fail
    (with_reducible refine (HR.out _ _).mono ?_)
    rintro e V3 ⟨rfl, o3⟩
    have OV3 := Lib.hid (OI3.out.trans o3 (by simp))
    have BV3 := Lib.hid (BI3.out.only o3 (by simp))
    obtain ⟨i30, i31, i32, i33, i34, i35, i36, i37, i38, i39, i310⟩ := BV3.out.eleven
    clear o3
    go_wp2_with fail
    (with_reducible refine (HK.out _).mono ?_)
    rintro e U3 ⟨rfl, o3⟩
    have OU3 := Lib.hid (OV3.out.trans o3 (by simp))
    have HS3 := Lib.hid (HS1.out.same OU3.out)
    have BA3 := Lib.hid (BA1.out.only OU3.out (by simp))
    have BB3 := Lib.hid (BB1.out.only OU3.out (by simp))
    have O3 := Lib.hid (O1.out.trans OU3.out (by simp))
    clear o3 c0 c1 c2 c3 c4 c5 c6 c7 c8 c9 c10 c11 c12 c13 c14 c15 c16 c17 c18 c19 c20 c21
    go_wp2_with fail
    refine wp_loop_rounds 1 ?_
    rw [rounds_succ]
    go_wp2_with fail
    rw [rounds_succ]
    go_wp2_with fail
    exact bodyPost_ret (v := .tuple #[.int .i64 0, .int .i64 0]) (by simp [results, Tryd.results16, go_sem]) rfl ⟨rfl, O3.out⟩
end Go.Proofs.YtgpgcjdneikokaaDoor
