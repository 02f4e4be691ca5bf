/- richest. -/
import Derived.Test.YtioglpaakmmidaaWServed
import Derived.Test.YtioglpaakmmidaaWEvMath
namespace Go.Proofs.Ytioglpaakmmidaa
open Go.RowKit

def RichRel (w : World) (B : Nat) (f : Int → Int) (v3 v : Value) (wr : World) : Prop :=
  ∃ k : Nat, v = .int .i64 k ∧ v3 = .int .i64 (bst f k) ∧ k ≤ 3 ∧ Bk wr B 35 (c3 f) ∧ Only [] w wr

set_option maxHeartbeats 1000000 in
theorem richest_any (f : Int → Int) (w : World) :
    Calls Try.prog 31 #[.agg (c3 f)] w fun e w' => e = .returned (.int .i64 (bst f 3)) ∧ Only [] w w' := by
  unfold c3
  go_enter Try.func31, Try.ntmps31
  go_wp2_with fail
  go_loopw [3, 5] (fun v3 v wr => RichRel w w.heap.size f v3 v wr) (fun _ v _ => 3 - (intOf v).toNat)
  case atStart => exact ⟨0, rfl, rfl, by omega, Bk.made w _ _, (Only.refl _ _).alloc _⟩
  case round =>
    obtain ⟨k, rfl, rfl, hk, hb, ho⟩ := hrel
    generalize w.heap.size = B at *
    by_cases hk3 : k < 3
    · have hb3 : bst f k < 3 := bst_lt3 f hk
      have g1 := hb.cell0 (c3_at f hk3)
      have g2 := hb.cell0 (c3_at f hb3)
      have p1 : 0 ≤ (k : Int) := by omega
      have p2 : (k : Int) < 3 := by omega
      have p3 : 0 ≤ (bst f k : Int) := by omega
      have p4 : (bst f k : Int) < 3 := by omega
      by_cases hlt : f (bst f k) < f k
      · have HN := Lib.hid (fun q => show RichRel w B f (.int .i64 k) (.int .i64 ((k : Int) + 1)) (wr.drewN q) from ⟨k + 1, by go_num, by simp only [bst]; rw [if_pos hlt], by omega, hb.drewN q, ho.drewN q⟩)
        have hd : decide (f (bst f k) < f k) = true := decide_eq_true hlt
        generalize f k = x at *
        generalize f (bst f k) = y at *
        generalize bst f k = m at *
        clear hb ho
        go_wp2_with fail
        go_quiet (fail)
        go_wp2_with fail
        go_roundw
        case rel => exact HN.out _
        case measure => simp [intOf]; omega
      · have HN := Lib.hid (fun q => show RichRel w B f (.int .i64 (bst f k)) (.int .i64 ((k : Int) + 1)) (wr.drewN q) from ⟨k + 1, by go_num, by simp only [bst]; rw [if_neg hlt], by omega, hb.drewN q, ho.drewN q⟩)
        have hd : decide (f (bst f k) < f k) = false := decide_eq_false hlt
        generalize f k = x at *
        generalize f (bst f k) = y at *
        generalize bst f k = m at *
        clear hb ho
        go_wp2_with fail
        go_quiet (fail)
        go_wp2_with fail
        go_roundw
        case rel => exact HN.out _
        case measure => simp [intOf]; omega
    · obtain rfl : k = 3 := by omega
      have HO := Lib.hid ho
      clear hb ho
      go_wp2_with fail
      go_ret
      exact ⟨rfl, HO.out⟩
end Go.Proofs.Ytioglpaakmmidaa
