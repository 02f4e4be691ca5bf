/- The law's awake, of what the program's accounts and Mod answer. -/
import Derived.Test.YtcchahgfjnphgaaM4
namespace Go.Proofs.Ytcchahgfjnphgaa
open Go.RowKit

def Z17 : Cn := fun _ _ => 0
def C17 (i : Int) : Cn := upd Z17 0 0 i
theorem C17_zero : C17 0 = Z17 := by
  funext k c
  unfold C17 upd Z17
  split <;> rfl
theorem C17_take {i : Nat} (h : i < 64) : takeF 2 (C17 i) 0 0 = (C17 ((i : Int) + 1), 0) := by
  have e0 : C17 i 0 0 = i := by simp [C17, upd]
  unfold takeF
  rw [if_pos (by unfold isAt; omega), if_pos (by show C17 i 0 0 < 64; omega)]
  refine Prod.ext ?_ rfl
  show upd (C17 i) 0 0 (C17 i 0 0 + 1) = _
  rw [e0]
  funext k c
  show upd (C17 i) 0 0 ((i : Int) + 1) k c = C17 ((i : Int) + 1) k c
  simp only [C17, upd]
  split <;> rfl
theorem C17_full : takeF 2 (C17 64) 0 0 = (C17 64, 170) := by
  have e0 : C17 64 0 0 = 64 := by simp [C17, upd]
  unfold takeF
  rw [if_pos (by unfold isAt; omega), if_neg (by show ¬ C17 64 0 0 < 64; omega)]
def D17 : Cn := (moveF 2 (C17 64) 0 1 0 64).1
theorem C17_move : (moveF 2 (C17 64) 0 1 0 64).2 = 0 ∧ D17 1 0 = 64 := by
  have e0 : C17 64 0 0 = 64 := by simp [C17, upd]
  have e1 : C17 64 1 0 = 0 := by simp [C17, upd, Z17]
  have e2 : moveF 2 (C17 64) 0 1 0 64 = (upd (upd (C17 64) 0 0 (C17 64 0 0 - 64)) 1 0 (C17 64 1 0 + 64), 0) := by
    unfold moveF
    rw [if_pos ⟨by unfold isAt; omega, by unfold isAt; omega, by omega⟩, if_neg (by show ¬ C17 64 0 0 < 64; omega), if_neg (by omega), if_neg (by show ¬ 64 < C17 64 1 0 + 64; omega)]
    rfl
  unfold D17
  rw [e2]
  exact ⟨rfl, by show C17 64 1 0 + 64 = 64; omega⟩
set_option maxHeartbeats 4000000 in
set_option maxRecDepth 20000 in
theorem awake17 (R : AccRep) (hM : ModOk) : AwakeOk17 := fun w => by
  have K1 := Lib.hid (R.new 2 w)
  go_enter Try.func8, Try.ntmps8
  go_wp2_with fail
  (with_reducible refine K1.out.mono ?_)
  rintro e w1 ⟨o1, ⟨-, -, b, F, rfl, hr, hF⟩ | ⟨hno, rfl⟩⟩
  · rw [show (fun _ _ => 0 : Cn) = C17 0 from C17_zero.symm] at hr
    have O1 := Lib.hid o1
    have HR := Lib.hid hr
    have HF := Lib.hid hF
    clear o1 hr hF K1
    go_wp2_with fail
    go_loopw [3] (fun iv wr => ∃ (i : Nat) (F : List Nat), iv = .int .i64 i ∧ i ≤ 64 ∧ R.rep wr b F 2 (C17 i) ∧ (∀ g ∈ F, w.heap.size ≤ g) ∧ Only [] w wr) (fun iv _ => 64 - (intOf iv).toNat)
    case atStart => exact ⟨0, F, rfl, by omega, HR.out, HF.out, O1.out⟩
    case round =>
      clear HR HF O1
      obtain ⟨i, F, rfl, hi, hr, hF, o⟩ := hrel
      have O := Lib.hid o
      have HF := Lib.hid hF
      clear o hF
      by_cases hlt : i < 64
      · have K2 := R.take 0 0 hr
        rw [C17_take hlt] at K2
        dsimp only at K2
        have K2 := Lib.hid K2
        clear hr
        go_wp2_with fail
        (with_reducible refine K2.out.mono ?_)
        rintro e w2 ⟨rfl, F', hr2, hF2, o2⟩
        have HR2 := Lib.hid hr2
        have O2 := Lib.hid (O.out.trans o2 (fun g hg => .inr (HF.out g hg)))
        have HS := O.out.size
        have HF2 := Lib.hid (show ∀ g ∈ F', w.heap.size ≤ g from fun g hg => by
          rcases hF2 g hg with h | h
          · exact HF.out g h
          · omega)
        clear hr2 hF2 o2 K2 HS
        go_wp2_with fail
        go_roundw
        case rel => exact ⟨i + 1, F', by go_num, by omega, HR2.out, HF2.out, O2.out⟩
        case measure => simp [intOf]; omega
      · have e : i = 64 := by omega
        subst e
        have K2 := hM (-1) 3 wr (by omega) (by omega)
        rw [show modF (-1) 3 = (2, 0) from by decide] at K2
        have K2 := Lib.hid K2
        have HR := Lib.hid hr
        clear hr hlt hi
        go_wp2_with fail
        (with_reducible refine K2.out.mono ?_)
        rintro e w2 ⟨rfl, o2⟩
        have O2 := Lib.hid (O.out.trans o2 (by simp))
        have K3 := R.take 0 0 (R.only HR.out o2 (by simp))
        rw [show ((64 : Nat) : Int) = 64 from rfl, C17_full] at K3
        dsimp only at K3
        have K3 := Lib.hid K3
        simp only [twoV]
        clear o2 K2
        go_wp2_with fail
        (with_reducible refine K3.out.mono ?_)
        rintro e w3 ⟨rfl, F3, hr3, hF3, o3⟩
        have O3 := Lib.hid (O2.out.trans o3 (fun g hg => .inr (HF.out g hg)))
        have HF3 := Lib.hid (show ∀ g ∈ F3, w.heap.size ≤ g from fun g hg => by
          have := O2.out.size
          rcases hF3 g hg with h | h
          · exact HF.out g h
          · omega)
        have K4 := R.move 0 1 0 64 (by omega) hr3
        rw [C17_move.1] at K4
        have K4 := Lib.hid K4
        clear hr3 hF3 o3 K3
        go_wp2_with fail
        (with_reducible refine K4.out.mono ?_)
        rintro e w4 ⟨rfl, F4, hr4, -, o4⟩
        have O4 := Lib.hid (O3.out.trans o4 (fun g hg => .inr (HF3.out g hg)))
        have K5 : Hid (Calls Try.prog 14 #[ptA b, .int .i64 1, .int .i64 0] w4 fun e w' => e = .returned (.int .i64 64) ∧ Only [] w4 w') := Lib.hid (by
          have h := R.count 1 0 (by omega) (by omega) hr4
          rw [show (moveF 2 (C17 64) 0 1 0 64).1 1 0 = 64 from C17_move.2] at h
          exact h)
        clear hr4 o4 K4
        go_wp2_with fail
        (with_reducible refine K5.out.mono ?_)
        rintro e w5 ⟨rfl, o5⟩
        go_wp2_with fail
        go_ret
        exact ⟨rfl, O4.out.trans o5 (by simp)⟩
  · exact absurd (by omega) hno
end Go.Proofs.Ytcchahgfjnphgaa
