/- The law WheelNexts, walked. -/
import Derived.Test.YtioglpaakmmidaaWAwake
namespace Go.Proofs.Ytioglpaakmmidaa
open Go.RowKit

theorem b3_cells {w : World} {B : Nat} {t : TypeId} {b0 b1 b2 : Bool} (h : Bk w B t #[.bool b0, .bool b1, .bool b2]) : w.cell? ⟨B, 0, none⟩ = some (.bool b0) ∧ w.cell? ⟨B, 1, none⟩ = some (.bool b1) ∧ w.cell? ⟨B, 2, none⟩ = some (.bool b2) :=
  ⟨h.cell0 rfl, h.cell0 rfl, h.cell0 rfl⟩

set_option maxHeartbeats 2000000 in
theorem nexts_any (A : Option Addr) (l : List Int) (cap : Nat) (hand : Int) (b0 b1 b2 : Bool) (w : World) (hl : Rd w A l) (hlen : l.length + 70 ≤ 17592186044416) :
    Calls Try.prog 3 #[.slice A l.length cap, .int .i64 hand, .agg #[.bool b0, .bool b1, .bool b2]] w fun e w' => e = .returned (.bool true) ∧ Only [] w w' := by
  have HL := Lib.hid hl
  have HB := Lib.hid (Bk.made w 23 #[.bool b0, .bool b1, .bool b2])
  have K0 := lent_any (w := w.alloc (.cells #[.bool b0, .bool b1, .bool b2] 23)) A l cap (hl.only ((Only.refl [] w).alloc _) (by simp)) hlen
  rw [World.size_alloc] at K0
  have HK0 := Lib.hid K0
  obtain ⟨r, hr⟩ : ∃ r, r = nextR l hand b0 b1 b2 := ⟨_, rfl⟩
  obtain ⟨c, hc⟩ : ∃ c, c = chk l := ⟨_, rfl⟩
  have HR := Lib.hid hr
  have HC := Lib.hid hc
  clear hl K0 hr hc
  go_enter Try.func3, Try.ntmps3
  go_wp2_with fail
  (with_reducible refine HK0.out.mono ?_)
  rintro e w1 ⟨rfl, bk1, o1⟩
  have O1 := Lib.hid (((Only.refl [] w).alloc (.cells #[.bool b0, .bool b1, .bool b2] 23)).trans o1 (by simp))
  have BG := Lib.hid bk1
  have BB1 := Lib.hid (HB.out.only o1 (by simp))
  obtain ⟨c0, c1, c2⟩ := b3_cells BB1.out
  have K1 := next_any (some ⟨w.heap.size + 1, 0, none⟩) l (l.length + 70) hand b0 b1 b2 w1 (rd_front bk1) (by omega)
  rw [← HR.out] at K1
  simp only [nextV] at K1
  have HK1 := Lib.hid K1
  clear bk1 o1 K1 HK0
  go_wp2_with fail
  (with_reducible refine HK1.out.mono ?_)
  rintro e w2 ⟨rfl, o2⟩
  have O2 := Lib.hid (O1.out.trans o2 (by simp))
  have BG2 := Lib.hid (BG.out.only o2 (by simp))
  have BB2 := Lib.hid (BB1.out.only o2 (by simp))
  clear c0 c1 c2
  obtain ⟨c0, c1, c2⟩ := b3_cells BB2.out
  have K2 := rnext_any A l cap hand b0 b1 b2 w2 (HL.out.only O2.out (by simp)) (by omega)
  rw [← HR.out] at K2
  simp only [nextV] at K2
  have HK2 := Lib.hid K2
  clear o2 K2 HK1
  go_wp2_with fail
  (with_reducible refine HK2.out.mono ?_)
  rintro e w3 ⟨rfl, o3⟩
  have O3 := Lib.hid (O2.out.trans o3 (by simp))
  have BG3 := Lib.hid (BG2.out.only o3 (by simp))
  have K3 := check_any (some ⟨w.heap.size + 1, 0, none⟩) l (l.length + 70) w3 (rd_front BG3.out) (by omega)
  rw [← HC.out] at K3
  have HK3 := Lib.hid K3
  clear c0 c1 c2 o3 K3 HK2
  go_wp2_with fail
  (with_reducible refine HK3.out.mono ?_)
  rintro e w4 ⟨rfl, o4⟩
  have O4 := Lib.hid (O3.out.trans o4 (by simp))
  have BG4 := Lib.hid (BG3.out.only o4 (by simp))
  have K4 := rcheck_any A l cap w4 (HL.out.only O4.out (by simp)) (by omega)
  rw [← HC.out] at K4
  have HK4 := Lib.hid K4
  clear o4 K4 HK3
  go_wp2_with fail
  (with_reducible refine HK4.out.mono ?_)
  rintro e w5 ⟨rfl, o5⟩
  have O5 := Lib.hid (O4.out.trans o5 (by simp))
  have BG5 := Lib.hid (BG4.out.only o5 (by simp))
  have K5 := kept_any (w := w5) (w.heap.size + 1) A l cap (HL.out.only O5.out (by simp)) BG5.out (by omega)
  have HK5 := Lib.hid K5
  clear o5 K5 HK4
  have t1 : (c == c) = true := beq_self_eq_true _
  have t2 : (r.1 == r.1) = true := beq_self_eq_true _
  have t3 : (r.2.1 == r.2.1) = true := beq_self_eq_true _
  have t4 : (r.2.2 == r.2.2) = true := beq_self_eq_true _
  go_wp2_with fail
  (with_reducible refine HK5.out.mono ?_)
  rintro e w6 ⟨rfl, o6⟩
  have O6 := Lib.hid (O5.out.trans o6 (by simp))
  clear o6 HK5
  go_wp2_with fail
  (with_reducible refine (awake_any _).mono ?_)
  rintro e w7 ⟨rfl, o7⟩
  have O7 := Lib.hid (O6.out.trans o7 (by simp))
  clear o7
  go_wp2_with fail
  go_ret
  exact ⟨rfl, O7.out⟩
end Go.Proofs.Ytioglpaakmmidaa
