/- Usual, awake; Marked, Grown, Bears. -/
import Derived.Test.YtioglpaakmmidaaWREven
import Derived.Test.YtioglpaakmmidaaWGap
namespace Go.Proofs.Ytioglpaakmmidaa
open Go.RowKit

def wt (a b c : Int) : Cred := fun x => if x = 0 then a else if x = 1 then b else c
theorem c3_wt (a b c : Int) : c3 (wt a b c) = #[.int .i64 a, .int .i64 b, .int .i64 c] := by simp [c3, wt]
def usual7 : List Int := [0, 1, 0, 2, 0, 1, 0]
theorem okW_of {a b c : Int} (h0 : 1 ≤ a) (h1 : 1 ≤ b) (h2 : 1 ≤ c) (h3 : a + b + c ≤ 64) : OkW (wt a b c) := ⟨by simpa [wt] using h0, by simpa [wt] using h1, by simpa [wt] using h2, by simpa [wt] using h3⟩
theorem usual_evs : allW (wt 4 2 1) = 7 ∧ evs (wt 4 2 1) 7 7 = usual7 := by decide
theorem four_evs : allW (wt 2 1 1) = 4 ∧ evs (wt 2 1 1) 4 4 = [0, 1, 2, 0] := by decide
theorem usual_isW : IsW usual7 := by decide
theorem usual_gap : gapR usual7 2 = (7, 0) := by
  have h : (2 : Int) ∈ usual7 := by decide
  have hw : Waits usual7 2 4 7 := ⟨by decide, by decide, fun m h1 h2 => by
    have hc : m = 1 ∨ m = 2 ∨ m = 3 ∨ m = 4 ∨ m = 5 ∨ m = 6 := by omega
    rcases hc with rfl | rfl | rfl | rfl | rfl | rfl <;> decide⟩
  have h1 := (gap_most h).up 4 7 (by decide) hw
  have h2 := gap_le h
  have e : usual7.length = 7 := rfl
  rw [e] at h2
  have e2 := gapR_yes (l := usual7) (k := 2) usual_isW (by omega)
  have e3 : ((2 : Nat) : Int) = 2 := rfl
  rw [e3] at e2
  rw [e2, show gap usual7 2 = 7 by omega]
  rfl
theorem next_ex : nextR [0, 1, 2] 2 true false false = (0, 0, 0) := by decide
theorem chk_ex : chk [0, 0, 1] = 20 := by decide

/-- The program's Usual: seven slots in a block of its own. -/
def NewU (w : World) (e : Ending) (w' : World) : Prop :=
  ∃ g, e = .returned (.slice (some ⟨g, 0, none⟩) 7 7) ∧ Bk w' g 3 (ics usual7) ∧ w.heap.size ≤ g ∧ Only [] w w'
theorem even7 (w : World) : Calls Try.prog 21 #[.agg #[.int .i64 4, .int .i64 2, .int .i64 1]] w fun e w' =>
    ∃ g, e = .returned (.tuple #[.slice (some ⟨g, 0, none⟩) 7 7, .int .i64 0]) ∧ Bk w' g 3 (ics usual7) ∧ w.heap.size ≤ g ∧ Only [] w w' := by
  have h := even_yes (wt 4 2 1) w (okW_of (by decide) (by decide) (by decide) (by decide))
  rw [c3_wt] at h
  refine h.mono fun e w' => ?_
  rintro ⟨g, he, hb, hg, ho⟩
  rw [usual_evs.1] at he
  rw [usual_evs.1] at hb
  exact ⟨g, he, by rw [← usual_evs.2]; exact hb, hg, ho⟩
theorem even4 (w : World) : Calls Try.prog 21 #[.agg #[.int .i64 2, .int .i64 1, .int .i64 1]] w fun e w' =>
    ∃ g, e = .returned (.tuple #[.slice (some ⟨g, 0, none⟩) 4 4, .int .i64 0]) ∧ Bk w' g 3 (ics [0, 1, 2, 0]) ∧ w.heap.size ≤ g ∧ Only [] w w' := by
  have h := even_yes (wt 2 1 1) w (okW_of (by decide) (by decide) (by decide) (by decide))
  rw [c3_wt] at h
  refine h.mono fun e w' => ?_
  rintro ⟨g, he, hb, hg, ho⟩
  rw [four_evs.1] at he
  rw [four_evs.1] at hb
  exact ⟨g, he, by rw [← four_evs.2]; exact hb, hg, ho⟩
theorem usual_any (w : World) : Calls Try.prog 23 #[] w (NewU w) := by
  have H := Lib.hid (even7 w)
  go_enter Try.func23, Try.ntmps23
  go_wp2_with fail
  (with_reducible refine H.out.mono ?_)
  rintro e w1 ⟨g, rfl, hb, hg, ho⟩
  have HF := Lib.hid (show NewU w (.returned (.slice (some ⟨g, 0, none⟩) 7 7)) w1 from ⟨g, rfl, hb, hg, ho⟩)
  clear hb hg ho
  go_wp2_with fail
  go_ret
  exact HF.out
theorem rusual_any (w : World) : Calls Try.prog 25 #[] w fun e w' => e = .returned (.slice (some ⟨w.heap.size, 0, none⟩) 7 7) ∧ w' = w.alloc (.cells (ics usual7) 3) := by
  go_enter Try.func25, Try.ntmps25
  go_wp2_with fail
  go_ret
  exact ⟨rfl, rfl⟩

set_option maxHeartbeats 1000000 in
theorem awake_any (w : World) : Calls Try.prog 16 #[] w fun e w' => e = .returned (.bool true) ∧ Only [] w w' := by
  have K1 : Calls Try.prog 11 #[.slice (some ⟨w.heap.size, 0, none⟩) 3 3, .int .i64 2, .agg #[.bool true, .bool false, .bool false]] (w.alloc (.cells #[.int .i64 0, .int .i64 1, .int .i64 2] 3)) fun e w' => e = .returned (.tuple #[.int .i64 0, .int .i64 0, .int .i64 0]) ∧ Only [] (w.alloc (.cells #[.int .i64 0, .int .i64 1, .int .i64 2] 3)) w' := by
    have h := next_any (some ⟨w.heap.size, 0, none⟩) [0, 1, 2] 3 2 true false false (w.alloc (.cells (ics [0, 1, 2]) 3)) (Rd.of_bk (Bk.made _ _ _)) (by decide)
    rw [next_ex] at h
    exact h
  have HK1 := Lib.hid K1
  clear K1
  go_enter Try.func16, Try.ntmps16
  go_wp2_with fail
  (with_reducible refine HK1.out.mono ?_)
  rintro e w1 ⟨rfl, o1⟩
  have O1 := Lib.hid (((Only.refl [] w).alloc _).trans o1 (by simp))
  clear o1 HK1
  go_wp2_with fail
  (with_reducible refine (usual_any _).mono ?_)
  rintro e w2 ⟨g, rfl, hb, _, o2⟩
  have O2 := Lib.hid (O1.out.trans o2 (by simp))
  have K2 : Calls Try.prog 17 #[.slice (some ⟨g, 0, none⟩) 7 7, .int .i64 2] w2 fun e w' => e = .returned (.tuple #[.int .i64 7, .int .i64 0]) ∧ Only [] w2 w' := by
    have h := gap_any (some ⟨g, 0, none⟩) usual7 7 2 w2 (Rd.of_bk hb) (by decide)
    rw [usual_gap] at h
    exact h
  have HK2 := Lib.hid K2
  clear K2 hb o2 O1
  go_wp2_with fail
  (with_reducible refine HK2.out.mono ?_)
  rintro e w3 ⟨rfl, o3⟩
  have O3 := Lib.hid (O2.out.trans o3 (by simp))
  clear o3 HK2 O2
  go_wp2_with fail
  (with_reducible refine (even4 _).mono ?_)
  rintro e w4 ⟨g4, rfl, hb4, _, o4⟩
  have O4 := Lib.hid (O3.out.trans o4 (by simp))
  have K4 : Calls Try.prog 24 #[.slice (some ⟨g4, 0, none⟩) 4 4, .slice (some ⟨w4.heap.size, 0, none⟩) 4 4] (w4.alloc (.cells #[.int .i64 0, .int .i64 1, .int .i64 2, .int .i64 0] 3)) fun e w' => e = .returned (.bool true) ∧ Only [] (w4.alloc (.cells #[.int .i64 0, .int .i64 1, .int .i64 2, .int .i64 0] 3)) w' := by
    have h := alike_any (w := w4.alloc (.cells (ics [0, 1, 2, 0]) 3)) (some ⟨g4, 0, none⟩) (some ⟨w4.heap.size, 0, none⟩) [0, 1, 2, 0] [0, 1, 2, 0] 4 4 (Rd.of_bk (hb4.alloc _)) (Rd.of_bk (Bk.made _ _ _)) (by decide) (by decide)
    rw [decide_eq_true rfl] at h
    exact h
  have HK4 := Lib.hid K4
  clear K4 o4 O3 hb4
  go_wp2_with fail
  (with_reducible refine HK4.out.mono ?_)
  rintro e w5 ⟨rfl, o5⟩
  have O5 := Lib.hid ((O4.out.alloc _).trans o5 (by simp))
  have K5 : Calls Try.prog 13 #[.slice (some ⟨w5.heap.size, 0, none⟩) 3 3] (w5.alloc (.cells #[.int .i64 0, .int .i64 0, .int .i64 1] 3)) fun e w' => e = .returned (.int .i64 20) ∧ Only [] (w5.alloc (.cells #[.int .i64 0, .int .i64 0, .int .i64 1] 3)) w' := by
    have h := check_any (some ⟨w5.heap.size, 0, none⟩) [0, 0, 1] 3 (w5.alloc (.cells (ics [0, 0, 1]) 3)) (Rd.of_bk (Bk.made _ _ _)) (by decide)
    rw [chk_ex] at h
    exact h
  have HK5 := Lib.hid K5
  clear K5 o5 O4
  go_wp2_with fail
  (with_reducible refine HK5.out.mono ?_)
  rintro e w6 ⟨rfl, o6⟩
  have O6 := Lib.hid ((O5.out.alloc _).trans o6 (by simp))
  clear o6 HK5 O5
  go_wp2_with fail
  go_ret
  exact ⟨rfl, O6.out⟩
end Go.Proofs.Ytioglpaakmmidaa
