/- Accounts that nobody made: each function's answer; the law HomeNobody. -/
import Derived.Test.YtcchahgfjnphgaaAc6
namespace Go.Proofs.Ytcchahgfjnphgaa
open Go.RowKit
set_option maxRecDepth 20000

set_option maxHeartbeats 1000000 in
theorem take_nob {w : World} {p : Value} (h : NotAcc w p) (k c : Int) : Calls Try.prog 11 #[p, .int .i64 k, .int .i64 c] w fun e w' => e = .returned (.int .i64 1) ∧ Only [] w w' := by
  have K := Lib.hid (has_no h k c)
  clear h
  go_enter Try.func11, Try.ntmps11
  go_wp2_with fail
  (with_reducible refine K.out.mono ?_)
  rintro e w1 ⟨rfl, rfl⟩
  go_wp2_with fail
  go_ret
  exact ⟨rfl, Only.refl _ _⟩
set_option maxHeartbeats 1000000 in
theorem give_nob {w : World} {p : Value} (h : NotAcc w p) (k c : Int) : Calls Try.prog 12 #[p, .int .i64 k, .int .i64 c] w fun e w' => e = .returned (.int .i64 1) ∧ Only [] w w' := by
  have K := Lib.hid (has_no h k c)
  clear h
  go_enter Try.func12, Try.ntmps12
  go_wp2_with fail
  (with_reducible refine K.out.mono ?_)
  rintro e w1 ⟨rfl, rfl⟩
  go_wp2_with fail
  go_ret
  exact ⟨rfl, Only.refl _ _⟩
set_option maxHeartbeats 1000000 in
theorem move_nob {w : World} {p : Value} (h : NotAcc w p) (k c : Int) : Calls Try.prog 13 #[p, .int .i64 k, .int .i64 k, .int .i64 c, .int .i64 0] w fun e w' => e = .returned (.int .i64 1) ∧ Only [] w w' := by
  have K := Lib.hid (has_no h k c)
  clear h
  go_enter Try.func13, Try.ntmps13
  go_wp2_with fail
  (with_reducible refine K.out.mono ?_)
  rintro e w1 ⟨rfl, rfl⟩
  go_wp2_with fail
  go_ret
  exact ⟨rfl, Only.refl _ _⟩
set_option maxHeartbeats 1000000 in
theorem count_nob {w : World} {p : Value} (h : NotAcc w p) (k c : Int) : Calls Try.prog 14 #[p, .int .i64 k, .int .i64 c] w fun e w' => e = .returned (.int .i64 0) ∧ Only [] w w' := by
  have K := Lib.hid (has_no h k c)
  clear h
  go_enter Try.func14, Try.ntmps14
  go_wp2_with fail
  (with_reducible refine K.out.mono ?_)
  rintro e w1 ⟨rfl, rfl⟩
  go_wp2_with fail
  go_ret
  exact ⟨rfl, Only.refl _ _⟩
set_option maxHeartbeats 1000000 in
theorem least_nob {w : World} {p : Value} (h : NotAcc w p) (c : Int) : Calls Try.prog 16 #[p, .int .i64 c] w fun e w' => e = .returned (.tuple #[.int .i64 0, .int .i64 1]) ∧ Only [] w w' := by
  have K := Lib.hid (given_no h)
  clear h
  go_enter Try.func16, Try.ntmps16
  go_wp2_with fail
  (with_reducible refine K.out.mono ?_)
  rintro e w1 ⟨rfl, rfl⟩
  go_wp2_with fail
  go_ret2
  exact ⟨rfl, Only.refl _ _⟩
set_option maxHeartbeats 1000000 in
theorem copy_nob {w : World} {p : Value} (h : NotAcc w p) : Calls Try.prog 17 #[p] w fun e w' => e = .returned (.pointer none) ∧ Only [] w w' := by
  have K := Lib.hid (given_no h)
  clear h
  go_enter Try.func17, Try.ntmps17
  go_wp2_with fail
  (with_reducible refine K.out.mono ?_)
  rintro e w1 ⟨rfl, rfl⟩
  go_wp2_with fail
  go_ret
  exact ⟨rfl, Only.refl _ _⟩
set_option maxHeartbeats 1000000 in
theorem room_nob {w : World} {p : Value} (h : NotAcc w p) (k : Int) : Calls Try.prog 15 #[p, .int .i64 k] w fun e w' => e = .returned (.agg #[.int .i64 0, .int .i64 0, .int .i64 0]) ∧ Only [] w w' := by
  have o2 := ((Only.refl [] w).alloc (.cells #[.int .i64 0, .int .i64 0, .int .i64 0] 36)).alloc (.cells #[.int .i64 0, .int .i64 0, .int .i64 0] 36)
  have K := Lib.hid (hasCore_no (h.only o2) k)
  clear h o2
  go_enter Try.func15, Try.ntmps15
  go_wp2_with fail
  (with_reducible refine K.out.mono ?_)
  rintro e w1 ⟨rfl, rfl⟩
  go_wp2_with fail
  refine bodyPost_ret (by simp [results, Try.results15, go_sem]) rfl ⟨rfl, ((Only.refl [] w).alloc _).alloc _⟩
theorem acc_zero : accC (.pointer none) 0 (fun _ => 0) = #[.pointer none, .int .i64 0, .int .i64 0, .int .i64 0, .int .i64 0, .int .i64 0, .int .i64 0, .int .i64 0, .int .i64 0, .int .i64 0, .int .i64 0, .int .i64 0, .int .i64 0, .int .i64 0, .int .i64 0, .int .i64 0, .int .i64 0, .int .i64 0, .int .i64 0, .int .i64 0, .int .i64 0, .int .i64 0, .int .i64 0, .int .i64 0, .int .i64 0, .int .i64 0, .int .i64 0, .int .i64 0, .int .i64 0, .int .i64 0, .int .i64 0, .int .i64 0, .int .i64 0, .int .i64 0, .int .i64 0, .int .i64 0, .int .i64 0, .int .i64 0, .int .i64 0, .int .i64 0, .int .i64 0, .int .i64 0, .int .i64 0, .int .i64 0, .int .i64 0, .int .i64 0, .int .i64 0, .int .i64 0, .int .i64 0, .int .i64 0] := by
  kernel_rfl
@[go_sem high] theorem row_neqV (w : World) : (binOp .neq 36 (.agg #[.int .i64 0, .int .i64 0, .int .i64 0]) (.agg #[.int .i64 0, .int .i64 0, .int .i64 0])).run Try.prog w = .ok (.bool false) w := by
  rw [run_neq_struct]
  rw [show (10000 : Nat) = 9998 + 2 from rfl, row_eq]
  rfl
@[go_sem] theorem row_guard (op : BinOp) (x y : Operand) (xs ys : Array Value) (w : World) : (eqGuard op 36 x y (.agg xs) (.agg ys)).run Try.prog w = .ok () w := run_eqGuard_agg w op _ x y xs ys (by kernel_rfl)
/-- What the law's loop keeps. -/
structure NbR (w : World) (g z : Nat) (wr : World) : Prop where
  bg : Bk wr g 28 #[.pointer none, ptA z]
  bz : Bk wr z 47 (accC (.pointer none) 0 (fun _ => 0))
  o : Only [] w wr
theorem NbR.only {w wr w' : World} {g z : Nat} (h : NbR w g z wr) (o : Only [] wr w') : NbR w g z w' :=
  ⟨h.bg.only o (by simp), h.bz.only o (by simp), h.o.trans o (by simp)⟩
theorem NbR.at_ {w wr : World} {g z : Nat} (h : NbR w g z wr) {i : Nat} (hi : i < 2) : ∃ tv, wr.cell? ⟨g, i, none⟩ = some tv ∧ NotAcc wr tv := by
  rcases i with _ | _ | i
  · exact ⟨_, h.bg.cell0 rfl, .inl rfl⟩
  · exact ⟨_, h.bg.cell0 rfl, .inr ⟨z, rfl, h.bz.cell0 rfl⟩⟩
  · omega
set_option maxHeartbeats 8000000 in
theorem law_nobody (k c : Int) (w : World) : Calls Try.prog 5 #[.int .i64 k, .int .i64 c] w fun e w' => e = .returned (.bool true) ∧ Only [] w w' := by
  have R0 : Hid (NbR w (w.heap.size + 1) w.heap.size ((w.alloc (.cells (accC (.pointer none) 0 (fun _ => 0)) 47)).alloc (.cells #[.pointer none, .pointer (some ⟨w.heap.size, 0, none⟩)] 28))) := Lib.hid
    ⟨Bk.newAt (by simp), (Bk.made w _ _).alloc _, ((Only.refl [] w).alloc _).alloc _⟩
  go_enter Try.func5, Try.ntmps5
  go_upto_region 3 with fail
  simp only [← acc_zero]
  go_loopw [6] (fun iv wr => ∃ i : Nat, iv = .int .i64 i ∧ i ≤ 2 ∧ NbR w (w.heap.size + 1) w.heap.size wr) (fun iv _ => 2 - (intOf iv).toNat)
  case atStart => exact ⟨0, rfl, by omega, R0.out⟩
  case round =>
    clear R0
    obtain ⟨i, rfl, hi, hr⟩ := hrel
    have R := Lib.hid hr
    by_cases hlt : i < 2
    · obtain ⟨tv, hc, hn⟩ := hr.at_ hlt
      have K0 := Lib.hid (least_nob hn c)
      have HN := Lib.hid hn
      have q0 : (0 : Int) ≤ (i : Int) := by omega
      have q1 : (i : Int) < 2 := by omega
      clear hr hn
      go_wp2_with fail
      (with_reducible refine K0.out.mono ?_)
      rintro e w1 ⟨rfl, o1⟩
      have R1 := Lib.hid (R.out.only o1)
      have N1 := Lib.hid (HN.out.only o1)
      have K1 := Lib.hid (take_nob N1.out k c)
      clear o1 K0 hc R HN
      go_wp2_with fail
      (with_reducible refine K1.out.mono ?_)
      rintro e w2 ⟨rfl, o1⟩
      have R2 := Lib.hid (R1.out.only o1)
      have N2 := Lib.hid (N1.out.only o1)
      have K2 := Lib.hid (give_nob N2.out k c)
      clear o1 K1 R1 N1
      go_wp2_with fail
      (with_reducible refine K2.out.mono ?_)
      rintro e w3 ⟨rfl, o1⟩
      have R3 := Lib.hid (R2.out.only o1)
      have N3 := Lib.hid (N2.out.only o1)
      have K3 := Lib.hid (move_nob N3.out k c)
      clear o1 K2 R2 N2
      go_wp2_with fail
      (with_reducible refine K3.out.mono ?_)
      rintro e w4 ⟨rfl, o1⟩
      have R4 := Lib.hid (R3.out.only o1)
      have N4 := Lib.hid (N3.out.only o1)
      have K4 := Lib.hid (count_nob N4.out k c)
      clear o1 K3 R3 N3
      go_wp2_with fail
      (with_reducible refine K4.out.mono ?_)
      rintro e w5 ⟨rfl, o1⟩
      have R5 := Lib.hid (R4.out.only o1)
      have N5 := Lib.hid (N4.out.only o1)
      have K5 := Lib.hid (room_nob N5.out k)
      clear o1 K4 R4 N4
      go_wp2_with fail
      (with_reducible refine K5.out.mono ?_)
      rintro e w6 ⟨rfl, o1⟩
      have R6 := Lib.hid (R5.out.only o1)
      have N6 := Lib.hid (N5.out.only o1)
      have K6 := Lib.hid (copy_nob N6.out)
      clear o1 K5 R5 N5
      go_wp2_with fail
      (with_reducible refine K6.out.mono ?_)
      rintro e w7 ⟨rfl, o1⟩
      have R7 := Lib.hid (R6.out.only o1)
      clear o1 K6 R6 N6
      go_wp2_with fail
      go_roundw
      case rel => exact ⟨i + 1, by go_num, by omega, R7.out⟩
      case measure => simp [intOf]; omega
    · have e : i = 2 := by omega
      subst e
      have KA := Lib.hid (awakeOk wr)
      clear hr
      go_wp2_with fail
      (with_reducible refine KA.out.mono ?_)
      rintro e w2 ⟨rfl, o2⟩
      go_wp2_with fail
      go_ret
      exact ⟨rfl, R.out.o.trans o2 (by simp)⟩
end Go.Proofs.Ytcchahgfjnphgaa
