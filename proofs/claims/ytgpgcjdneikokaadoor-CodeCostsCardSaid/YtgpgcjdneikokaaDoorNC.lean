/- Why the small module may not be run; its heights. -/
import Derived.Test.YtgpgcjdneikokaaDoorN8
import Derived.Test.YtgpgcjdneikokaaDoorN9
namespace Go.Proofs.YtgpgcjdneikokaaDoor
open Go.RowKit

set_option maxRecDepth 20000 in
set_option maxHeartbeats 4000000 in
theorem check_1 (w : World) (fb cb : Nat) (hs : Sm w fb cb 1) : Calls Tryd.prog 9 #[.agg (md fb)] w fun e w' => e = .returned (.tuple #[.int .i64 64, .int .i64 0, .int .i64 0]) ∧ Only [] w w' := by
  have HA := Lib.hid (fun w => cname_yes ⟨#[109]⟩ (.inl rfl) w)
  have HW := Lib.hid (fun n a b w => isWithin_any n a b w)
  have HF := Lib.hid (fun w hs => func_may w fb cb 1 (.inl rfl) hs)
  have HI := Lib.hid (fun w hs => instrs_may w fb cb 1 (.inl rfl) hs)
  have HH := Lib.hid (fun w hs => heights_1 w fb cb hs)
  have HS := Lib.hid (hs.alloc (.cells (md fb) 45))
  have B := Lib.hid (Bk.made w 45 (md fb))
  have O := Lib.hid ((Only.refl [] w).alloc (.cells (md fb) 45))
  clear hs
  go_enter Tryd.func9, Tryd.ntmps9
  go_wp2_with fail
  (with_reducible refine (HA.out _).mono ?_)
  rintro e w1 ⟨rfl, o1⟩
  have O1 := Lib.hid (O.out.trans o1 (by simp))
  have B1 := Lib.hid (B.out.only o1 (by simp))
  have S1 := Lib.hid (HS.out.same o1)
  have m10 := B1.out.cell0 (i := 0) rfl
  have m11 := B1.out.cell0 (i := 1) rfl
  clear o1
  go_wp2_with fail
  (with_reducible refine (HW.out _ _ _ _).mono ?_)
  rintro e w2 ⟨rfl, rfl⟩
  go_wp2_with fail
  refine wp_loop_rounds 2 ?_
  rw [rounds_succ]
  go_wp2_with fail
  (with_reducible refine (HF.out _ S1.out).mono ?_)
  rintro e w3 ⟨rfl, o3⟩
  have O3 := Lib.hid (O1.out.trans o3 (by simp))
  have B3 := Lib.hid (B1.out.only o3 (by simp))
  have S3 := Lib.hid (S1.out.same o3)
  have m30 := B3.out.cell0 (i := 0) rfl
  have m31 := B3.out.cell0 (i := 1) rfl
  clear o3
  go_wp2_with fail
  rw [rounds_succ]
  go_wp2_with fail
  refine wp_loop_rounds 2 ?_
  rw [rounds_succ]
  go_wp2_with fail
  (with_reducible refine (HI.out _ S3.out).mono ?_)
  rintro e w4 ⟨rfl, o4⟩
  have O4 := Lib.hid (O3.out.trans o4 (by simp))
  have B4 := Lib.hid (B3.out.only o4 (by simp))
  have S4 := Lib.hid (S3.out.same o4)
  have m40 := B4.out.cell0 (i := 0) rfl
  have m41 := B4.out.cell0 (i := 1) rfl
  clear o4
  go_wp2_with fail
  rw [rounds_succ]
  go_wp2_with fail
  refine wp_loop_rounds 2 ?_
  rw [rounds_succ]
  go_wp2_with fail
  (with_reducible refine (HH.out _ S4.out).mono ?_)
  rintro e w5 ⟨rfl, o5⟩
  have O5 := Lib.hid (O4.out.trans o5 (by simp))
  clear o5
  go_wp2_with fail
  exact bodyPost_ret (v := .tuple #[.int .i64 64, .int .i64 0, .int .i64 0]) (by simp [results, Tryd.results9, go_sem]) rfl ⟨rfl, O5.out⟩
set_option maxRecDepth 20000 in
set_option maxHeartbeats 4000000 in
theorem check_2 (w : World) (fb cb : Nat) (hs : Sm w fb cb 2) : Calls Tryd.prog 9 #[.agg (md fb)] w fun e w' => e = .returned (.tuple #[.int .i64 0, .int .i64 0, .int .i64 0]) ∧ Only [] w w' := by
  have HA := Lib.hid (fun w => cname_yes ⟨#[109]⟩ (.inl rfl) w)
  have HW := Lib.hid (fun n a b w => isWithin_any n a b w)
  have HF := Lib.hid (fun w hs => func_may w fb cb 2 (.inr rfl) hs)
  have HI := Lib.hid (fun w hs => instrs_may w fb cb 2 (.inr rfl) hs)
  have HH := Lib.hid (fun w hs => heights_2 w fb cb hs)
  have HS := Lib.hid (hs.alloc (.cells (md fb) 45))
  have B := Lib.hid (Bk.made w 45 (md fb))
  have O := Lib.hid ((Only.refl [] w).alloc (.cells (md fb) 45))
  clear hs
  go_enter Tryd.func9, Tryd.ntmps9
  go_wp2_with fail
  (with_reducible refine (HA.out _).mono ?_)
  rintro e w1 ⟨rfl, o1⟩
  have O1 := Lib.hid (O.out.trans o1 (by simp))
  have B1 := Lib.hid (B.out.only o1 (by simp))
  have S1 := Lib.hid (HS.out.same o1)
  have m10 := B1.out.cell0 (i := 0) rfl
  have m11 := B1.out.cell0 (i := 1) rfl
  clear o1
  go_wp2_with fail
  (with_reducible refine (HW.out _ _ _ _).mono ?_)
  rintro e w2 ⟨rfl, rfl⟩
  go_wp2_with fail
  refine wp_loop_rounds 2 ?_
  rw [rounds_succ]
  go_wp2_with fail
  (with_reducible refine (HF.out _ S1.out).mono ?_)
  rintro e w3 ⟨rfl, o3⟩
  have O3 := Lib.hid (O1.out.trans o3 (by simp))
  have B3 := Lib.hid (B1.out.only o3 (by simp))
  have S3 := Lib.hid (S1.out.same o3)
  have m30 := B3.out.cell0 (i := 0) rfl
  have m31 := B3.out.cell0 (i := 1) rfl
  clear o3
  go_wp2_with fail
  rw [rounds_succ]
  go_wp2_with fail
  refine wp_loop_rounds 2 ?_
  rw [rounds_succ]
  go_wp2_with fail
  (with_reducible refine (HI.out _ S3.out).mono ?_)
  rintro e w4 ⟨rfl, o4⟩
  have O4 := Lib.hid (O3.out.trans o4 (by simp))
  have B4 := Lib.hid (B3.out.only o4 (by simp))
  have S4 := Lib.hid (S3.out.same o4)
  have m40 := B4.out.cell0 (i := 0) rfl
  have m41 := B4.out.cell0 (i := 1) rfl
  clear o4
  go_wp2_with fail
  rw [rounds_succ]
  go_wp2_with fail
  refine wp_loop_rounds 2 ?_
  rw [rounds_succ]
  go_wp2_with fail
  (with_reducible refine (HH.out _ S4.out).mono ?_)
  rintro e w5 ⟨hb, rfl, -, -, o5⟩
  have O5 := Lib.hid (O4.out.trans o5 (by simp))
  clear o5
  go_wp2_with fail
  rw [rounds_succ]
  go_wp2_with fail
  exact bodyPost_ret (v := .tuple #[.int .i64 0, .int .i64 0, .int .i64 0]) (by simp [results, Tryd.results9, go_sem]) rfl ⟨rfl, O5.out⟩
set_option maxRecDepth 20000 in
theorem has_0 (fb : Nat) (w : World) : Calls Tryd.prog 18 #[.agg (md fb), .int .i64 0] w fun e w' => e = .returned (.bool true) ∧ Only [] w w' := by
  have HW := Lib.hid (fun n a b w => isWithin_any n a b w)
  have B := Lib.hid (Bk.made w 45 (md fb))
  have O := Lib.hid ((Only.refl [] w).alloc (.cells (md fb) 45))
  go_enter Tryd.func18, Tryd.ntmps18
  go_wp2_with fail
  (with_reducible refine (HW.out _ _ _ _).mono ?_)
  rintro e w2 ⟨rfl, rfl⟩
  go_wp2_with fail
  exact bodyPost_ret (v := .bool true) (by simp [results, Tryd.results18, go_sem]) rfl ⟨rfl, O.out⟩
set_option maxRecDepth 20000 in
set_option maxHeartbeats 4000000 in
theorem hgts (w : World) (fb cb : Nat) (hs : Sm w fb cb 2) : Calls Tryd.prog 11 #[.agg (md fb), .int .i64 0] w fun e w' => ∃ hb, e = .returned (.tuple #[.slice (some ⟨hb, 0, none⟩) 2 2, .int .i64 0]) ∧ w.heap.size ≤ hb ∧ Bk w' hb 3 #[.int .i64 0, .int .i64 1] ∧ Only [] w w' := by
  have HC := Lib.hid (fun w hs => check_2 w fb cb hs)
  have HY := Lib.hid (fun w => has_0 fb w)
  have HH := Lib.hid (fun w hs => heights_2 w fb cb hs)
  have HS := Lib.hid (hs.alloc (.cells (md fb) 45))
  have B := Lib.hid (Bk.made w 45 (md fb))
  have O := Lib.hid ((Only.refl [] w).alloc (.cells (md fb) 45))
  clear hs
  go_enter Tryd.func11, Tryd.ntmps11
  go_wp2_with fail
  (with_reducible refine (HC.out _ HS.out).mono ?_)
  rintro e w1 ⟨rfl, o1⟩
  have O1 := Lib.hid (O.out.trans o1 (by simp))
  have B1 := Lib.hid (B.out.only o1 (by simp))
  have S1 := Lib.hid (HS.out.same o1)
  have m10 := B1.out.cell0 (i := 0) rfl
  have m11 := B1.out.cell0 (i := 1) rfl
  clear o1
  go_wp2_with fail
  (with_reducible refine (HY.out _).mono ?_)
  rintro e w2 ⟨rfl, o2⟩
  have O2 := Lib.hid (O1.out.trans o2 (by simp))
  have B2 := Lib.hid (B1.out.only o2 (by simp))
  have S2 := Lib.hid (S1.out.same o2)
  have m20 := B2.out.cell0 (i := 0) rfl
  have m21 := B2.out.cell0 (i := 1) rfl
  clear o2
  go_wp2_with fail
  (with_reducible refine (HH.out _ S2.out).mono ?_)
  rintro e w3 ⟨hb, rfl, l3, b3, o3⟩
  have F := Lib.hid (And.intro (Nat.le_trans O2.out.size l3) (And.intro b3 (O2.out.trans o3 (by simp))))
  clear o3 b3 l3
  go_wp2_with fail
  exact bodyPost_ret (v := .tuple #[.slice (some ⟨hb, 0, none⟩) 2 2, .int .i64 0]) (by simp [results, Tryd.results11, go_sem]) rfl ⟨hb, rfl, F.out⟩
end Go.Proofs.YtgpgcjdneikokaaDoor
