/- text: the texts of leaves: of numbers below 100, of atoms, of one pid and one complex number. -/
import Derived.Test.YtlpafnibcmcjgaaGreatDoorP1
import Derived.Test.YtlpafnibcmcjgaaGreatDoorMe
import Derived.Test.YtlpafnibcmcjgaaGreatDoorMg
import Derived.BigQuiet
namespace Go.Proofs.YtlpafnibcmcjgaaGreatDoor
open Go.RowKit

theorem itoa_small (i : Nat) (z : ByteArray) (n : Int) (hi : i < 100) (hn : n = (i : Int)) (hz : (⟨(Lib.decDigits i).toArray⟩ : ByteArray) = z) (w : World) : Calls Tryz.prog 102 #[.int .i64 n] w fun e w' => e = .returned (.string z) ∧ w' = w := by
  subst hn hz
  exact Tryz.strconv_Itoa_small i hi w
/-- What leafText answers. -/
def LeafT (t : T) (z : ByteArray) : Prop := ∀ w, Vars w → Calls Tryz.prog 73 #[.agg (tcs t.k t.n t.x t.y t.S t.a t.b (.slice none 0 0))] w fun e w' => e = .returned (.string z) ∧ Only [] w w'
set_option maxHeartbeats 1000000 in
theorem leaf_atom (s : ByteArray) : LeafT (.atom s) s := by
  intro w _
  change Calls Tryz.prog 73 #[.agg (tcs 5 0 0 0 s 0 0 (.slice none 0 0))] w fun e w' => e = .returned (.string s) ∧ Only [] w w'
  go_enter Tryz.func73, Tryz.ntmps73
  go_wp2_with fail
  go_ret
  exact ⟨rfl, (Only.refl _ _).alloc _⟩
set_option maxHeartbeats 1000000 in
theorem leaf_int (n : Int) (h1 : -9223372036854775808 ≤ n) (h2 : n ≤ 9223372036854775807) : LeafT (.int n) ⟨(Lib.itoa n).toArray⟩ := by
  intro w hv
  change Calls Tryz.prog 73 #[.agg (tcs 3 n 0 0 ⟨#[]⟩ 0 0 (.slice none 0 0))] w fun e w' => e = .returned (.string ⟨(Lib.itoa n).toArray⟩) ∧ Only [] w w'
  have O0 := Lib.hid ((Only.refl [] w).alloc (.cells (tcs 3 n 0 0 ⟨#[]⟩ 0 0 (.slice none 0 0)) 27))
  go_enter Tryz.func73, Tryz.ntmps73
  go_wp2_with fail
  (with_reducible refine (itoa_any n _ h1 h2 (hv.alloc _)).mono ?_)
  rintro e w1 ⟨rfl, o1⟩
  have O1 := Lib.hid (O0.out.trans o1 (by simp))
  clear o1
  go_wp2_with fail
  go_ret
  exact ⟨rfl, O1.out⟩
set_option maxHeartbeats 1000000 in
theorem leaf_ref7 : LeafT (.ref 7) ⟨#[35, 55]⟩ := by
  intro w _
  change Calls Tryz.prog 73 #[.agg (tcs 7 7 0 0 ⟨#[]⟩ 0 0 (.slice none 0 0))] w fun e w' => e = .returned (.string ⟨#[35, 55]⟩) ∧ Only [] w w'
  have I := Lib.hid (fun w => itoa_small 7 ⟨#[55]⟩ 7 (by decide) rfl (by rw [Lib.decDigits_one (by decide)]; rfl) w)
  go_enter Tryz.func73, Tryz.ntmps73
  go_wp2_with fail
  (with_reducible refine (I.out _).mono ?_)
  rintro e w1 ⟨rfl, rfl⟩
  go_wp2_with fail
  go_ret
  exact ⟨rfl, (Only.refl _ _).alloc _⟩
set_option maxHeartbeats 2000000 in
theorem leaf_pid31 : LeafT (.pid 3 1) ⟨#[60, 51, 46, 49, 62]⟩ := by
  intro w _
  change Calls Tryz.prog 73 #[.agg (tcs 6 0 0 0 ⟨#[]⟩ 3 1 (.slice none 0 0))] w fun e w' => e = .returned (.string ⟨#[60, 51, 46, 49, 62]⟩) ∧ Only [] w w'
  have I3 := Lib.hid (fun w => itoa_small 3 ⟨#[51]⟩ 3 (by decide) rfl (by rw [Lib.decDigits_one (by decide)]; rfl) w)
  have I1 := Lib.hid (fun w => itoa_small 1 ⟨#[49]⟩ 1 (by decide) rfl (by rw [Lib.decDigits_one (by decide)]; rfl) w)
  have J3 := Lib.hid (fun q => (I3.out ((w.alloc (.cells (tcs 6 0 0 0 ⟨#[]⟩ 3 1 (.slice none 0 0)) 27)).drewN q)).mono (fun e w' (h : e = .returned (.string ⟨#[51]⟩) ∧ w' = _) => (⟨h.1, 0, h.2⟩ : e = .returned (.string ⟨#[51]⟩) ∧ ∃ k, w' = ((w.alloc (.cells (tcs 6 0 0 0 ⟨#[]⟩ 3 1 (.slice none 0 0)) 27)).drewN q).drewN k)))
  have J1 := Lib.hid (fun q => (I1.out ((w.alloc (.cells (tcs 6 0 0 0 ⟨#[]⟩ 3 1 (.slice none 0 0)) 27)).drewN q)).mono (fun e w' (h : e = .returned (.string ⟨#[49]⟩) ∧ w' = _) => (⟨h.1, 0, h.2⟩ : e = .returned (.string ⟨#[49]⟩) ∧ ∃ k, w' = ((w.alloc (.cells (tcs 6 0 0 0 ⟨#[]⟩ 3 1 (.slice none 0 0)) 27)).drewN q).drewN k)))
  have B0 := Lib.hid (Bk.made w 27 (tcs 6 0 0 0 ⟨#[]⟩ 3 1 (.slice none 0 0)))
  obtain ⟨z0, z1, z2, z3, z4, z5, z6⟩ := B0.out.seven
  go_enter Tryz.func73, Tryz.ntmps73
  go_wp2_with fail
  go_quiet ((first | (go_at_call 102; with_reducible exact Calls.quiet_of (J3.out _)) | (go_at_call 102; with_reducible exact Calls.quiet_of (J1.out _))))
  go_wp2_with fail
  go_ret
  exact ⟨rfl, ((Only.refl _ _).alloc _).drewN _⟩
set_option maxRecDepth 100000 in
set_option maxHeartbeats 2000000 in
theorem leaf_com30 : LeafT (.com 3 0) ⟨#[51, 43, 48, 105]⟩ := by
  intro w _
  change Calls Tryz.prog 73 #[.agg (tcs 4 0 (floatOfInt .f64 3) (floatOfInt .f64 0) ⟨#[]⟩ 0 0 (.slice none 0 0))] w fun e w' => e = .returned (.string ⟨#[51, 43, 48, 105]⟩) ∧ Only [] w w'
  have I3 := Lib.hid (fun w => itoa_small 3 ⟨#[51]⟩ 3 (by decide) rfl (by rw [Lib.decDigits_one (by decide)]; rfl) w)
  have I0 := Lib.hid (fun w => itoa_small 0 ⟨#[48]⟩ 0 (by decide) rfl (by rw [Lib.decDigits_one (by decide)]; rfl) w)
  have t3 := fun w => run_convert_float_int (P := Tryz.prog) w 113 3 .f64 .i64 (floatOfInt .f64 3) 3 (by kernel_rfl) Tryz.underlying3 (toInt_fl 3 (by decide))
  have t0 := fun w => run_convert_float_int (P := Tryz.prog) w 113 3 .f64 .i64 (floatOfInt .f64 0) 0 (by kernel_rfl) Tryz.underlying3 (toInt_fl 0 (by decide))
  generalize floatOfInt .f64 3 = x3 at *
  generalize floatOfInt .f64 0 = x0 at *
  have C : Hid (∀ w, Calls Tryz.prog 103 #[.complex .f64 x3 x0] w fun e w' => e = .returned (.string ⟨#[51, 43, 48, 105]⟩) ∧ w' = w) := Lib.hid (by
    intro w
    go_enter Tryz.func103, Tryz.ntmps103
    go_wp2_with fail
    (with_reducible refine (I3.out _).mono ?_)
    rintro e w1 ⟨rfl, rfl⟩
    go_wp2_with fail
    (with_reducible refine (I0.out _).mono ?_)
    rintro e w1 ⟨rfl, rfl⟩
    go_wp2_with fail
    go_ret
    exact ⟨rfl, rfl⟩)
  clear I3 I0 t3 t0
  go_enter Tryz.func73, Tryz.ntmps73
  go_wp2_with fail
  (with_reducible refine (C.out _).mono ?_)
  rintro e w1 ⟨rfl, rfl⟩
  go_wp2_with fail
  go_ret
  exact ⟨rfl, (Only.refl _ _).alloc _⟩
end Go.Proofs.YtlpafnibcmcjgaaGreatDoor
