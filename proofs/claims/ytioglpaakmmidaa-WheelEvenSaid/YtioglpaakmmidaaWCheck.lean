/- Check, the program's and the document's; checkHand. -/
import Derived.Test.YtioglpaakmmidaaWMath
import Derived.Test.YtioglpaakmmidaaTail
namespace Go.Proofs.Ytioglpaakmmidaa
open Go.RowKit

theorem class_any (x : Int) (w : World) : Calls Try.prog 30 #[.int .i64 x] w fun e w' => e = .returned (.bool (decide (0 ≤ x ∧ x < 3))) ∧ w = w' := by
  by_cases h0 : 0 ≤ x
  · by_cases h1 : x < 3
    · rw [decide_eq_true (show 0 ≤ x ∧ x < 3 from ⟨h0, h1⟩)]
      have d0 : decide (0 ≤ x) = true := decide_eq_true h0
      have d1 : decide (x < 3) = true := decide_eq_true h1
      go_enter Try.func30, Try.ntmps30
      go_wp2
      go_ret
      exact ⟨rfl, rfl⟩
    · rw [decide_eq_false (show ¬ (0 ≤ x ∧ x < 3) from fun h => h1 h.2)]
      have d0 : decide (0 ≤ x) = true := decide_eq_true h0
      have d1 : decide (x < 3) = false := decide_eq_false h1
      go_enter Try.func30, Try.ntmps30
      go_wp2
      go_ret
      exact ⟨rfl, rfl⟩
  · rw [decide_eq_false (show ¬ (0 ≤ x ∧ x < 3) from fun h => h0 h.1)]
    have d0 : decide (0 ≤ x) = false := decide_eq_false h0
    go_enter Try.func30, Try.ntmps30
    go_wp2
    go_ret
    exact ⟨rfl, rfl⟩

/-- The first loop's head: the classes of the first i slots are marked. -/
def C1 (w : World) (l : List Int) (B : Nat) (v : Value) (wr : World) : Prop :=
  ∃ i : Nat, v = .int .i64 i ∧ i ≤ l.length ∧ (∀ j, j < i → 0 ≤ l.getD j 0 ∧ l.getD j 0 < 3) ∧ Bk wr B 23 (st l i) ∧ Only [] w wr ∧ w.heap.size ≤ B
/-- The second's: the classes below k are there. -/
def C2 (w : World) (l : List Int) (B : Nat) (v : Value) (wr : World) : Prop :=
  ∃ k : Nat, v = .int .i64 k ∧ k ≤ 3 ∧ (∀ j : Nat, j < k → (j : Int) ∈ l) ∧ Bk wr B 23 (st l l.length) ∧ Only [] w wr
theorem C1.step {w wr : World} {l : List Int} {B i k : Nat} (hi : i < l.length) (hk : k < 3) (e : l.getD i 0 = (k : Int)) (h : ∀ j, j < i → 0 ≤ l.getD j 0 ∧ l.getD j 0 < 3) (hb : Bk wr B 23 (st l i)) (o : Only [] w wr) (hB : w.heap.size ≤ B) :
    C1 w l B (.int .i64 ((i : Int) + 1)) (wr.setCell ⟨B, k, none⟩ (.bool true)) :=
  ⟨i + 1, by go_num, by omega, fun j hj => by
    by_cases hji : j = i
    · subst hji; omega
    · exact h j (by omega), by have := hb.set k (.bool true); rw [st_step hi hk e] at this; exact this, o.set (.inr hB) _, hB⟩

set_option maxHeartbeats 1000000 in
theorem check_any (A : Option Addr) (l : List Int) (cap : Nat) (w : World) (hl : Rd w A l) (hn : l.length ≤ 9223372036854775807) :
    Calls Try.prog 13 #[.slice A l.length cap] w fun e w' => e = .returned (.int .i64 (chk l)) ∧ Only [] w w' := by
  by_cases h64 : l.length ≤ 64
  · have HL := Lib.hid hl
    have HNO := Lib.hid (show ∀ j, j < l.length → ¬ (0 ≤ l.getD j 0 ∧ l.getD j 0 < 3) → ¬ IsW l from fun j hj hn hw => hn (hw.at_ hj))
    clear hl
    go_enter Try.func13, Try.ntmps13
    go_wp2_with fail
    go_loopw [12] (fun v wr => C1 w l w.heap.size v wr) (fun v _ => l.length - (intOf v).toNat)
    case atStart => exact ⟨0, rfl, Nat.zero_le _, fun j hj => absurd hj (Nat.not_lt_zero j), by rw [st_zero]; exact Bk.made w _ _, (Only.refl _ _).alloc _, Nat.le_refl _⟩
    case round =>
      obtain ⟨i, rfl, hi, hv, hb, ho, hB⟩ := hrel
      generalize hBB : w.heap.size = B at *
      have HBB := Lib.hid hBB
      clear hBB
      by_cases hlt : i < l.length
      · obtain ⟨bl, off, rfl, hc⟩ := (HL.out.only ho (by simp)).form (by omega)
        have hcell := hc i hlt
        by_cases hok : 0 ≤ l.getD i 0 ∧ l.getD i 0 < 3
        · obtain ⟨k, hk⟩ := Int.eq_ofNat_of_zero_le hok.1
          have hk3 : k < 3 := by omega
          rw [hk] at hcell
          have hfr := hb.free k
          obtain ⟨u, hu⟩ := st_some l i hk3
          have hcl := hb.cell0 hu
          have N1 := Lib.hid (C1.step (w := w) hlt hk3 hk hv hb ho (by have := HBB.out; omega))
          have K := Lib.hid (class_any k wr)
          rw [decide_eq_true (show 0 ≤ (k : Int) ∧ (k : Int) < 3 by omega)] at K
          clear hc hv hb ho hk hok hu
          go_wp2_with fail
          (with_reducible refine K.out.mono ?_)
          rintro e w1 ⟨rfl, rfl⟩
          go_wp2_with fail
          go_roundw
          case rel => exact N1.out
          case measure => simp [intOf]; omega
        · have HX := Lib.hid (chk_no (HNO.out i hlt hok))
          have K := Lib.hid (class_any (l.getD i 0) wr)
          rw [decide_eq_false hok] at K
          have HO := Lib.hid ho
          generalize l.getD i 0 = x at *
          clear hc hv hb ho hok
          go_wp2_with fail
          (with_reducible refine K.out.mono ?_)
          rintro e w1 ⟨rfl, rfl⟩
          go_wp2_with fail
          go_ret
          exact ⟨ret_i HX.out.symm, HO.out⟩
      · obtain rfl : i = l.length := by omega
        have N1 := Lib.hid (show C2 w l B (.int .i64 0) wr from ⟨0, rfl, by omega, fun j hj => absurd hj (Nat.not_lt_zero j), hb, ho⟩)
        have HV := Lib.hid hv
        clear hv hb ho
        go_wp2_with fail
        obtain ⟨wo, rfl⟩ : ∃ wo : World, wo = wr := ⟨_, rfl⟩
        go_loopw [22] (fun v wr => C2 w l B v wr) (fun v _ => 3 - (intOf v).toNat)
        case atStart => exact N1.out
        case round =>
          clear N1
          obtain ⟨k, rfl, hk, hin, hb, ho⟩ := hrel
          by_cases hk3 : k < 3
          · have hcl := hb.cell0 (st_full l (Nat.le_refl _) hk3)
            by_cases hm : (k : Int) ∈ l
            · rw [decide_eq_true hm] at hcl
              have N2 := Lib.hid (show C2 w l B (.int .i64 ((k : Int) + 1)) wr from ⟨k + 1, by go_num, by omega, fun j hj => by
                by_cases hjk : j = k
                · subst hjk; exact hm
                · exact hin j (by omega), hb, ho⟩)
              clear hin hb ho hm
              go_wp2_with fail
              go_roundw
              case rel => exact N2.out
              case measure => simp [intOf]; omega
            · rw [decide_eq_false hm] at hcl
              have HO := Lib.hid ho
              have HX := Lib.hid (chk_no (fun hw => hm (hw.has hk3)))
              clear hin hb ho hm
              go_wp2_with fail
              go_ret
              exact ⟨ret_i HX.out.symm, HO.out⟩
          · have HO := Lib.hid ho
            have HX := Lib.hid (chk_yes (isW_of h64 HV.out (fun j hj => hin j (by omega))))
            clear hin hb ho
            go_wp2_with fail
            go_ret
            exact ⟨ret_i HX.out.symm, HO.out⟩
  · have hd : 64 < l.length := by omega
    rw [chk_no (fun h => h64 h.1)]
    clear hl h64
    go_enter Try.func13, Try.ntmps13
    go_wp2
    go_ret
    exact ⟨rfl, Only.refl _ _⟩
set_option maxHeartbeats 1000000 in
theorem rcheck_any (A : Option Addr) (l : List Int) (cap : Nat) (w : World) (hl : Rd w A l) (hn : l.length ≤ 9223372036854775807) :
    Calls Try.prog 14 #[.slice A l.length cap] w fun e w' => e = .returned (.int .i64 (chk l)) ∧ Only [] w w' := by
  by_cases h64 : l.length ≤ 64
  · have HL := Lib.hid hl
    have HNO := Lib.hid (show ∀ j, j < l.length → ¬ (0 ≤ l.getD j 0 ∧ l.getD j 0 < 3) → ¬ IsW l from fun j hj hn hw => hn (hw.at_ hj))
    clear hl
    go_enter Try.func14, Try.ntmps14
    go_wp2_with fail
    go_loopw [4] (fun v wr => C1 w l w.heap.size v wr) (fun v _ => l.length - (intOf v).toNat)
    case atStart => exact ⟨0, rfl, Nat.zero_le _, fun j hj => absurd hj (Nat.not_lt_zero j), by rw [st_zero]; exact Bk.made w _ _, (Only.refl _ _).alloc _, Nat.le_refl _⟩
    case round =>
      obtain ⟨i, rfl, hi, hv, hb, ho, hB⟩ := hrel
      generalize hBB : w.heap.size = B at *
      have HBB := Lib.hid hBB
      clear hBB
      by_cases hlt : i < l.length
      · obtain ⟨bl, off, rfl, hc⟩ := (HL.out.only ho (by simp)).form (by omega)
        have hcell := hc i hlt
        by_cases hok : 0 ≤ l.getD i 0 ∧ l.getD i 0 < 3
        · obtain ⟨k, hk⟩ := Int.eq_ofNat_of_zero_le hok.1
          have hk3 : k < 3 := by omega
          rw [hk] at hcell
          have hfr := hb.free k
          obtain ⟨u, hu⟩ := st_some l i hk3
          have hcl := hb.cell0 hu
          have N1 := Lib.hid (C1.step (w := w) hlt hk3 hk hv hb ho (by have := HBB.out; omega))
          clear hc hv hb ho hk hok hu
          go_wp2_with fail
          go_roundw
          case rel => exact N1.out
          case measure => simp [intOf]; omega
        · have HX := Lib.hid (chk_no (HNO.out i hlt hok))
          have HO := Lib.hid ho
          generalize l.getD i 0 = x at *
          clear hc hv hb ho
          rcases (show x < 0 ∨ (0 ≤ x ∧ 3 ≤ x) by omega) with hx | ⟨hx0, hx⟩
          all_goals
            clear hok
            go_wp2_with fail
            go_ret
            exact ⟨ret_i HX.out.symm, HO.out⟩
      · obtain rfl : i = l.length := by omega
        have N1 := Lib.hid (show C2 w l B (.int .i64 0) wr from ⟨0, rfl, by omega, fun j hj => absurd hj (Nat.not_lt_zero j), hb, ho⟩)
        have HV := Lib.hid hv
        clear hv hb ho
        go_wp2_with fail
        obtain ⟨wo, rfl⟩ : ∃ wo : World, wo = wr := ⟨_, rfl⟩
        go_loopw [5] (fun v wr => C2 w l B v wr) (fun v _ => 3 - (intOf v).toNat)
        case atStart => exact N1.out
        case round =>
          clear N1
          obtain ⟨k, rfl, hk, hin, hb, ho⟩ := hrel
          by_cases hk3 : k < 3
          · have hcl := hb.cell0 (st_full l (Nat.le_refl _) hk3)
            by_cases hm : (k : Int) ∈ l
            · rw [decide_eq_true hm] at hcl
              have N2 := Lib.hid (show C2 w l B (.int .i64 ((k : Int) + 1)) wr from ⟨k + 1, by go_num, by omega, fun j hj => by
                by_cases hjk : j = k
                · subst hjk; exact hm
                · exact hin j (by omega), hb, ho⟩)
              clear hin hb ho hm
              go_wp2_with fail
              go_roundw
              case rel => exact N2.out
              case measure => simp [intOf]; omega
            · rw [decide_eq_false hm] at hcl
              have HO := Lib.hid ho
              have HX := Lib.hid (chk_no (fun hw => hm (hw.has hk3)))
              clear hin hb ho hm
              go_wp2_with fail
              go_ret
              exact ⟨ret_i HX.out.symm, HO.out⟩
          · have HO := Lib.hid ho
            have HX := Lib.hid (chk_yes (isW_of h64 HV.out (fun j hj => hin j (by omega))))
            clear hin hb ho
            go_wp2_with fail
            go_ret
            exact ⟨ret_i HX.out.symm, HO.out⟩
  · have hd : 64 < l.length := by omega
    rw [chk_no (fun h => h64 h.1)]
    clear hl h64
    go_enter Try.func14, Try.ntmps14
    go_wp2
    go_ret
    exact ⟨rfl, Only.refl _ _⟩

theorem checkHand_any (A : Option Addr) (l : List Int) (cap : Nat) (hand : Int) (w : World) (hl : Rd w A l) (hn : l.length ≤ 9223372036854775807) :
    Calls Try.prog 29 #[.slice A l.length cap, .int .i64 hand] w fun e w' => e = .returned (.int .i64 (chkHand l hand)) ∧ Only [] w w' := by
  have K := check_any A l cap w hl hn
  by_cases hw : IsW l
  · rw [chk_yes hw] at K
    have HK := Lib.hid K
    clear K hl
    by_cases h0 : hand < 0
    · have HX := Lib.hid (show (1 : Int) = chkHand l hand by unfold chkHand; rw [if_pos hw, if_neg (by omega)])
      clear hw
      go_enter Try.func29, Try.ntmps29
      go_wp2_with fail
      (with_reducible refine HK.out.mono ?_)
      rintro e w1 ⟨rfl, o⟩
      go_wp2
      go_ret
      exact ⟨ret_i HX.out, o⟩
    · obtain ⟨k, rfl⟩ := Int.eq_ofNat_of_zero_le (show 0 ≤ hand by omega)
      by_cases h1 : k < l.length
      · have HX := Lib.hid (show (0 : Int) = chkHand l k by unfold chkHand; rw [if_pos hw, if_pos (by omega)])
        clear hw
        go_enter Try.func29, Try.ntmps29
        go_wp2_with fail
        (with_reducible refine HK.out.mono ?_)
        rintro e w1 ⟨rfl, o⟩
        go_wp2
        go_ret
        exact ⟨ret_i HX.out, o⟩
      · have HX := Lib.hid (show (1 : Int) = chkHand l k by unfold chkHand; rw [if_pos hw, if_neg (by omega)])
        clear hw
        go_enter Try.func29, Try.ntmps29
        go_wp2_with fail
        (with_reducible refine HK.out.mono ?_)
        rintro e w1 ⟨rfl, o⟩
        go_wp2
        go_ret
        exact ⟨ret_i HX.out, o⟩
  · rw [chk_no hw] at K
    have HK := Lib.hid K
    have HX := Lib.hid (show (20 : Int) = chkHand l hand by unfold chkHand; rw [if_neg hw])
    clear K hl hw
    go_enter Try.func29, Try.ntmps29
    go_wp2_with fail
    (with_reducible refine HK.out.mono ?_)
    rintro e w1 ⟨rfl, o⟩
    go_wp2
    go_ret
    exact ⟨ret_i HX.out, o⟩
end Go.Proofs.Ytioglpaakmmidaa
