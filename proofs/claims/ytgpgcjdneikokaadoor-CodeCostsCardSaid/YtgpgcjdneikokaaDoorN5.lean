/- slices.Repeat of one number, once or twice. -/
import Derived.Test.YtgpgcjdneikokaaDoorN4
import Derived.Deep.RegionLaw
import Derived.Laws.IdiomCopy
namespace Go.Proofs.YtgpgcjdneikokaaDoor
open Go.RowKit

theorem int_size1 : (Tryd.prog.info? 3).map (·.size) = some 1 := by kernel_rfl
set_option maxRecDepth 20000 in
set_option maxHeartbeats 1000000 in
theorem mul_one (n : Int) (hn : n = 1 ∨ n = 2) (w : World) : Calls Tryd.prog 28 #[.int .u64 1, .int .u64 n] w fun e w' => e = .returned (.tuple #[.int .u64 0, .int .u64 n]) ∧ w = w' := by
  rcases hn with rfl | rfl
  · go_enter Tryd.func28, Tryd.ntmps28
    go_wp2
    exact bodyPost_ret (v := .tuple #[.int .u64 0, .int .u64 1]) (by simp [results, Tryd.results28, go_sem]; decide) rfl ⟨rfl, rfl⟩
  · go_enter Tryd.func28, Tryd.ntmps28
    go_wp2
    exact bodyPost_ret (v := .tuple #[.int .u64 0, .int .u64 2]) (by simp [results, Tryd.results28, go_sem]; decide) rfl ⟨rfl, rfl⟩
theorem make_i1 (w : World) : (Instr.makeSlice 47 (.int .i64 1) (.int .i64 1)).run Tryd.prog w = .ok (.slice (some ⟨w.heap.size, 0, none⟩) 1 1) (w.alloc (.cells #[.int .i64 0] 3)) := by
  have h := run_make_row' (P := Tryd.prog) 47 3 (.int .i64 0) 8 Tryd.underlying47 int_info rfl .i64 .i64 1 (by omega) (by omega) w
  rw [show madeCells #[Value.int .i64 0] 1 = #[.int .i64 0] from by kernel_rfl] at h
  exact h
theorem make_i2 (w : World) : (Instr.makeSlice 47 (.int .i64 2) (.int .i64 2)).run Tryd.prog w = .ok (.slice (some ⟨w.heap.size, 0, none⟩) 2 2) (w.alloc (.cells #[.int .i64 0, .int .i64 0] 3)) := by
  have h := run_make_row' (P := Tryd.prog) 47 3 (.int .i64 0) 8 Tryd.underlying47 int_info rfl .i64 .i64 2 (by omega) (by omega) w
  rw [show madeCells #[Value.int .i64 0] 2 = #[.int .i64 0, .int .i64 0] from by kernel_rfl] at h
  exact h
theorem copy_1 (W : World) (g o d dc s sc : Nat) (a : Addr) (x : Int) (hs : W.cell? a = some (.int .i64 x)) (hc : (W.cell? ⟨g, o, none⟩).isSome = true) (hf : W.frozen? ⟨g, o, none⟩ = false) (hn : 1 = Nat.min s d) (h0 : a.add 0 = a) :
    (Builtin.copy_ #[47, 47] 3 #[.slice (some ⟨g, o, none⟩) d dc, .slice (some a) s sc]).run Tryd.prog W = .ok (.int .i64 1) (W.setCell ⟨g, o, none⟩ (.int .i64 x)) :=
  run_copy_cells (P := Tryd.prog) W 47 47 3 3 g o d dc a s sc [.int .i64 x] Tryd.underlying47 int_size1 hn
    (fun j v hv => by cases j with | zero => (simp at hv; subst hv; rw [h0]; exact hs) | succ j => simp at hv)
    (fun j hj => by obtain rfl : j = 0 := (by simp at hj; omega); exact hc) (fun j hj => by obtain rfl : j = 0 := (by simp at hj; omega); exact hf) (by simp [Value.oneCell'])
set_option maxRecDepth 20000 in
set_option maxHeartbeats 4000000 in
theorem repeat_1 (x : Int) (xb : Nat) (w : World) (hx : Bk w xb 3 #[.int .i64 x]) : Calls Tryd.prog 22 #[.slice (some ⟨xb, 0, none⟩) 1 1, .int .i64 1] w fun e w' => e = .returned (.slice (some ⟨w.heap.size, 0, none⟩) 1 1) ∧ w' = w.alloc (.cells #[.int .i64 x] 3) := by
  have HM := Lib.hid (fun w => mul_one 1 (.inl rfl) w)
  have hmk := make_i1
  have BW := Bk.made w 3 #[.int .i64 0]
  have hcp := copy_1 (w.alloc (.cells #[.int .i64 0] 3)) w.heap.size 0 1 1 1 1 ⟨xb, 0, none⟩ x ((hx.alloc _).cell0 (i := 0) rfl) (by rw [BW.cell0 (i := 0) rfl]; rfl) (BW.free 0) (by decide) (by simp [Addr.add])
  clear hx BW
  go_enter Tryd.func22, Tryd.ntmps22
  go_wp2_with fail
  (with_reducible refine (HM.out _).mono ?_)
  rintro e w' ⟨rfl, rfl⟩
  go_wp2_with fail
  refine wp_loop_rounds 1 ?_
  rw [rounds_succ]
  go_wp2_with fail
  go_ret
  exact ⟨rfl, rfl⟩
set_option maxRecDepth 20000 in
set_option maxHeartbeats 4000000 in
theorem repeat_2 (x : Int) (xb : Nat) (w : World) (hx : Bk w xb 3 #[.int .i64 x]) : Calls Tryd.prog 22 #[.slice (some ⟨xb, 0, none⟩) 1 1, .int .i64 2] w fun e w' => e = .returned (.slice (some ⟨w.heap.size, 0, none⟩) 2 2) ∧ w' = (w.alloc (.cells #[.int .i64 x, .int .i64 x] 3)).drew := by
  have HM := Lib.hid (fun w => mul_one 2 (.inr rfl) w)
  have hmk := make_i2
  have BW := Bk.made w 3 #[.int .i64 0, .int .i64 0]
  have hcp := copy_1 (w.alloc (.cells #[.int .i64 0, .int .i64 0] 3)) w.heap.size 0 2 2 1 1 ⟨xb, 0, none⟩ x ((hx.alloc _).cell0 (i := 0) rfl) (by rw [BW.cell0 (i := 0) rfl]; rfl) (BW.free 0) (by decide) (by simp [Addr.add])
  have HB := Lib.hid (Bk.made w 3 #[.int .i64 x, .int .i64 0])
  clear hx BW
  go_enter Tryd.func22, Tryd.ntmps22
  go_wp2_with fail
  (with_reducible refine (HM.out _).mono ?_)
  rintro e w' ⟨rfl, rfl⟩
  go_wp2_with fail
  clear hcp
  have hcd : (Builtin.copy_ #[47, 47] 3 #[.slice (some ⟨w.heap.size, 1, none⟩) 1 1, .slice (some ⟨w.heap.size, 0, none⟩) 1 2]).run Tryd.prog (w.alloc (.cells #[.int .i64 x, .int .i64 0] 3)).drew = .ok (.int .i64 1) ((w.alloc (.cells #[.int .i64 x, .int .i64 0] 3)).setCell ⟨w.heap.size, 1, none⟩ (.int .i64 x)).drew := copy_1 (w.alloc (.cells #[.int .i64 x, .int .i64 0] 3)).drew w.heap.size 1 1 1 1 2 ⟨w.heap.size, 0, none⟩ x (HB.out.drew.cell0 (i := 0) rfl) (by rw [HB.out.drew.cell0 (i := 1) rfl]; rfl) (HB.out.drew.free 1) (by decide) (by simp [Addr.add])
  refine wp_loop_rounds 2 ?_
  rw [rounds_succ]
  go_wp2_with fail
  go_region
  go_wp2_with fail
  rw [rounds_succ]
  go_wp2_with fail
  go_ret
  exact ⟨rfl, by trivial⟩
end Go.Proofs.YtgpgcjdneikokaaDoor
