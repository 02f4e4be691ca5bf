/- The law WheelWaits, walked. -/
import Derived.Test.YtioglpaakmmidaaLNexts
namespace Go.Proofs.Ytioglpaakmmidaa
open Go.RowKit

theorem nextR_all {l : List Int} {k x : Nat} (hw : IsW l) (hk : k < l.length) (hx : l.getD k 0 = (x : Int)) : nextR l k true true true = ((x : Int), (((k + 1) % l.length : Nat) : Int), 0) := by
  have h3 := (hw.at_ hk).2
  refine nextR_some hw hk hx ?_
  have hx3 : x < 3 := by omega
  have hc : x = 0 ∨ x = 1 ∨ x = 2 := by omega
  rcases hc with rfl | rfl | rfl <;> rfl
theorem gapR_err {l : List Int} {c : Int} (h : (gapR l c).2 ≠ 0) : (gapR l c).1 = 0 := by
  unfold gapR at h ⊢
  split
  · split
    · rename_i h1 h2
      rw [if_pos h1, if_pos h2] at h
      exact absurd rfl h
    · rfl
  · rfl

/-- The outer loop's head. -/
def W1 (w : World) (l : List Int) (c : Int) (B : Nat) (v10 v11 : Value) (wr : World) : Prop :=
  ∃ i m : Nat, v11 = .int .i64 i ∧ v10 = .int .i64 m ∧ i ≤ l.length ∧ m ≤ 64 ∧ Most l c i m ∧ Bk wr B 23 #[.bool true, .bool true, .bool true] ∧ Only [] w wr
/-- The inner's: n turns have passed, none of them the class's. -/
def W2 (w : World) (l : List Int) (B h N : Nat) (v12 v13 : Value) (wr : World) : Prop :=
  ∃ n : Nat, v12 = .int .i64 (((h + n) % l.length : Nat) : Int) ∧ v13 = .int .i64 n ∧ n < N ∧ Bk wr B 23 #[.bool true, .bool true, .bool true] ∧ Only [] w wr

set_option maxHeartbeats 2000000 in
theorem waits_no (A : Option Addr) (l : List Int) (cap : Nat) (c : Int) (w : World) (hl : Rd w A l) (hlen : l.length ≤ 9223372036854775807) (hno : (gapR l c).2 ≠ 0) :
    Calls Try.prog 7 #[.slice A l.length cap, .int .i64 c] w fun e w' => e = .returned (.bool true) ∧ Only [] w w' := by
  have HL := Lib.hid hl
  obtain ⟨x, hx⟩ : ∃ x, x = (gapR l c).2 := ⟨_, rfl⟩
  have hr : gapR l c = (0, x) := by
    have h1 := gapR_err hno
    exact Prod.ext h1 hx.symm
  have hne : (x != 0) = true := by rw [hx]; simpa using hno
  have t1 : (x == x) = true := beq_self_eq_true _
  have K1 := gap_any A l cap c w hl hlen
  rw [hr] at K1
  simp only [two] at K1
  have HK1 := Lib.hid K1
  have HR := Lib.hid hr
  clear hl K1 hno hr hx
  go_enter Try.func7, Try.ntmps7
  go_wp2_with fail
  (with_reducible refine HK1.out.mono ?_)
  rintro e w1 ⟨rfl, o1⟩
  have O1 := Lib.hid o1
  have K2 := rgap_any A l cap c w1 (HL.out.only o1 (by simp)) hlen
  rw [HR.out] at K2
  simp only [two] at K2
  have HK2 := Lib.hid K2
  clear o1 K2 HK1
  go_wp2_with fail
  (with_reducible refine HK2.out.mono ?_)
  rintro e w2 ⟨rfl, o2⟩
  have O2 := Lib.hid (O1.out.trans o2 (by simp))
  clear o2 HK2
  go_wp2_with fail
  (with_reducible refine (awake_any _).mono ?_)
  rintro e w3 ⟨rfl, o3⟩
  have O3 := Lib.hid (O2.out.trans o3 (by simp))
  clear o3
  go_wp2_with fail
  go_ret
  exact ⟨rfl, O3.out⟩

set_option maxHeartbeats 4000000 in
theorem waits_yes (A : Option Addr) (l : List Int) (cap c : Nat) (w : World) (hl : Rd w A l) (hw : IsW l) (hc : c < 3) :
    Calls Try.prog 7 #[.slice A l.length cap, .int .i64 c] w fun e w' => e = .returned (.bool true) ∧ Only [] w w' := by
  have HL := Lib.hid hl
  have HW := Lib.hid hw
  have h64 := hw.1
  have hpos := hw.pos
  have K1 := gap_any A l cap c w hl (by omega)
  rw [gapR_yes hw hc] at K1
  simp only [two] at K1
  have HK1 := Lib.hid K1
  have HM := Lib.hid (hw.has hc)
  obtain ⟨g, hg⟩ : ∃ g, g = gap l c := ⟨_, rfl⟩
  rw [← hg] at HK1
  have HG := Lib.hid hg
  clear hl K1 hw hg
  go_enter Try.func7, Try.ntmps7
  go_wp2_with fail
  (with_reducible refine HK1.out.mono ?_)
  rintro e w1 ⟨rfl, o1⟩
  have O1 := Lib.hid o1
  have HB := Lib.hid (Bk.made w1 23 #[.bool true, .bool true, .bool true])
  clear o1 HK1
  go_wp2_with fail
  go_loopw [10, 11, 12, 13] (fun v10 v11 _ _ wr => W1 w l c w1.heap.size v10 v11 wr) (fun _ v _ _ _ => l.length - (intOf v).toNat)
  case atStart => exact ⟨0, 0, rfl, rfl, by omega, by omega, most_zero l c, HB.out, O1.out.alloc _⟩
  case round =>
    generalize w1.heap.size = B at *
    obtain ⟨i, m, rfl, rfl, hi, hm, hM, hb, ho⟩ := hrel
    by_cases hlt : i < l.length
    · obtain ⟨N, hN, hWt⟩ := waits_ex HM.out hlt
      have h1N := hWt.one
      have HWt := Lib.hid hWt
      have HMo := Lib.hid hM
      have E0 := Lib.hid (show W2 w l B i N (.int .i64 i) (.int .i64 0) wr from ⟨0, by rw [Nat.add_zero, Nat.mod_eq_of_lt hlt], rfl, by omega, hb, ho⟩)
      obtain ⟨wo, rfl⟩ : ∃ wo : World, wo = wr := ⟨_, rfl⟩
      clear hM ho hWt hb
      go_wp2_with fail
      go_loopw [12, 13] (fun v12 v13 wr => W2 w l B i N v12 v13 wr) (fun _ v _ => l.length - (intOf v).toNat)
      case atStart => exact E0.out
      case round =>
        clear E0
        obtain ⟨n, rfl, rfl, hn, hb, ho⟩ := hrel
        have hk : (i + n) % l.length < l.length := Nat.mod_lt _ hpos
        obtain ⟨x, hx⟩ := Int.eq_ofNat_of_zero_le (HW.out.at_ hk).1
        have hnext : ((i + n) % l.length + 1) % l.length = (i + (n + 1)) % l.length := by rw [Nat.mod_add_mod]; congr 1
        have K := next_any A l cap ((i + n) % l.length : Nat) true true true wr (HL.out.only ho (by simp)) (by omega)
        rw [nextR_all HW.out hk hx, hnext] at K
        simp only [nextV] at K
        have HK := Lib.hid K
        have HO := Lib.hid ho
        have HB' := Lib.hid hb
        obtain ⟨c0, c1, c2⟩ := b3_cells hb
        have hk2 : (i + (n + 1)) % l.length < l.length := Nat.mod_lt _ hpos
        by_cases hy : x = c
        · have hnN : n + 1 = N := Waits.uniq ⟨by omega, by rw [show i + (n + 1) - 1 = i + n by omega, hx, hy], fun k h1 h2 => HWt.out.no k h1 (by omega)⟩ HWt.out
          have hyb : ((x : Int) == (c : Int)) = true := by rw [hy]; exact beq_self_eq_true _
          have HM2 := Lib.hid (HMo.out.step hlt HWt.out)
          have HNN := Lib.hid hnN
          generalize (i + n) % l.length = y at *
          generalize (i + (n + 1)) % l.length = z at *
          clear K hx ho hb hnext hy hnN
          go_wp2_with fail
          (with_reducible refine HK.out.mono ?_)
          rintro e w4 ⟨rfl, o4⟩
          have B4 := Lib.hid (HB'.out.only o4 (by simp))
          have O4 := Lib.hid (HO.out.trans o4 (by simp))
          clear o4 HK c0 c1 c2
          go_wp2_with fail
          go_roundw
          case rel => exact ⟨i + 1, max m (n + 1), by go_num, by rw [max_cast], by omega, by omega, by rw [HNN.out]; exact HM2.out, B4.out, O4.out⟩
          case measure => simp [intOf]; omega
        · have hyb : ((x : Int) == (c : Int)) = false := beq_false_of_ne (by omega)
          have hnN : n + 1 < N := by
            apply Nat.lt_of_le_of_ne (by omega)
            intro e
            have := HWt.out.hit
            rw [← e, show i + (n + 1) - 1 = i + n by omega, hx] at this
            omega
          have HZ : Hid ((i + (n + 1)) % l.length = (i + (n + 1)) % l.length) := Lib.hid rfl
          generalize (i + n) % l.length = y at *
          obtain ⟨z, hz⟩ : ∃ z, z = (i + (n + 1)) % l.length := ⟨_, rfl⟩
          rw [← hz] at HK hk2
          have HZ2 := Lib.hid hz
          clear K hx ho hb hnext hy hz HZ
          go_wp2_with fail
          (with_reducible refine HK.out.mono ?_)
          rintro e w4 ⟨rfl, o4⟩
          have B4 := Lib.hid (HB'.out.only o4 (by simp))
          have O4 := Lib.hid (HO.out.trans o4 (by simp))
          clear o4 HK c0 c1 c2
          go_wp2_with fail
          go_roundw
          case rel => exact ⟨n + 1, by rw [HZ2.out], by go_num, hnN, B4.out, O4.out⟩
          case measure => simp [intOf]; omega
    · obtain rfl : i = l.length := by omega
      have hmg : m = g := by rw [HG.out]; exact (gap_eq HM.out hM).symm
      have hmb : ((m : Int) == (g : Int)) = true := by rw [hmg]; exact beq_self_eq_true _
      have HO := Lib.hid ho
      clear hM ho hb hmg
      go_wp2_with fail
      (with_reducible refine (awake_any _).mono ?_)
      rintro e w3 ⟨rfl, o3⟩
      have O3 := Lib.hid (HO.out.trans o3 (by simp))
      clear o3
      go_wp2_with fail
      go_ret
      exact ⟨rfl, O3.out⟩

theorem waits_any (A : Option Addr) (l : List Int) (cap : Nat) (c : Int) (w : World) (hl : Rd w A l) (hlen : l.length ≤ 9223372036854775807) :
    Calls Try.prog 7 #[.slice A l.length cap, .int .i64 c] w fun e w' => e = .returned (.bool true) ∧ Only [] w w' := by
  by_cases h : (gapR l c).2 = 0
  · have hw : IsW l := by
      apply Classical.byContradiction
      intro hw
      rw [gapR_no hw] at h
      simp at h
    have hc : 0 ≤ c ∧ c < 3 := by
      apply Classical.byContradiction
      intro hc
      rw [gapR_out hw hc] at h
      simp at h
    obtain ⟨k, rfl⟩ := Int.eq_ofNat_of_zero_le hc.1
    exact waits_yes A l cap k w hl hw (by omega)
  · exact waits_no A l cap c w hl hlen h
end Go.Proofs.Ytioglpaakmmidaa
