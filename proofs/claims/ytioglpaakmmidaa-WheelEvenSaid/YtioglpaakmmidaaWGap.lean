/- Gap, the program's and the document's. -/
import Derived.Test.YtioglpaakmmidaaWCheck
namespace Go.Proofs.Ytioglpaakmmidaa
open Go.RowKit

def two (r : Int × Int) : Value := .tuple #[.int .i64 r.1, .int .i64 r.2]
theorem two_of {r : Int × Int} {a b : Int} (h : r = (a, b)) : Ending.returned (.tuple #[.int .i64 a, .int .i64 b]) = .returned (two r) := by
  rw [h]
  rfl
theorem gapR_yes {l : List Int} {k : Nat} (hw : IsW l) (hk : k < 3) : gapR l k = ((gap l k : Int), 0) := by
  unfold gapR
  rw [if_pos hw, if_pos (by omega)]
theorem gapR_out {l : List Int} {c : Int} (hw : IsW l) (hk : ¬ (0 ≤ c ∧ c < 3)) : gapR l c = (0, 1) := by
  unfold gapR
  rw [if_pos hw, if_neg hk]
theorem gapR_no {l : List Int} {c : Int} (hw : ¬ IsW l) : gapR l c = (0, 20) := by
  unfold gapR
  rw [if_neg hw]

theorem max_cast (g t : Nat) : (if (g : Int) < (t : Int) + 1 then (t : Int) + 1 else (g : Int)) = ((max g (t + 1) : Nat) : Int) := by
  split <;> omega

def GRel (w : World) (l : List Int) (c : Int) (v7 v8 v : Value) (wr : World) : Prop :=
  ∃ i g t : Nat, v = .int .i64 i ∧ v7 = .int .i64 g ∧ v8 = .int .i64 t ∧ i ≤ 2 * l.length ∧ Longs l c i g t ∧ Only [] w wr

set_option maxHeartbeats 1000000 in
theorem gap_any (A : Option Addr) (l : List Int) (cap : Nat) (c : Int) (w : World) (hl : Rd w A l) (hn : l.length ≤ 9223372036854775807) :
    Calls Try.prog 17 #[.slice A l.length cap, .int .i64 c] w fun e w' => e = .returned (two (gapR l c)) ∧ Only [] w w' := by
  have K := check_any A l cap w hl hn
  by_cases hw : IsW l
  · rw [chk_yes hw] at K
    have HK := Lib.hid K
    by_cases hc : 0 ≤ c ∧ c < 3
    · obtain ⟨k, rfl⟩ := Int.eq_ofNat_of_zero_le hc.1
      have hk : k < 3 := by omega
      have HL := Lib.hid hl
      have HX := Lib.hid (gapR_yes hw hk)
      have HM := Lib.hid (hw.has hk)
      have h64 := hw.1
      have hpos := hw.pos
      have K2 := fun w' => class_any k w'
      rw [decide_eq_true (show 0 ≤ (k : Int) ∧ (k : Int) < 3 by omega)] at K2
      have HC := Lib.hid K2
      clear K hl hw hc hn K2
      go_enter Try.func17, Try.ntmps17
      go_wp2_with fail
      (with_reducible refine HK.out.mono ?_)
      rintro e w1 ⟨rfl, o1⟩
      go_wp2_with fail
      (with_reducible refine (HC.out _).mono ?_)
      rintro e w2 ⟨rfl, rfl⟩
      have HO1 := Lib.hid o1
      clear o1
      go_wp2_with fail
      go_loopw [7, 8, 21] (fun v7 v8 v wr => GRel w l k v7 v8 v wr) (fun _ _ v _ => 2 * l.length - (intOf v).toNat)
      case atStart => exact ⟨0, 0, 0, rfl, rfl, rfl, by omega, longs_zero l k, HO1.out⟩
      case round =>
        clear HO1
        obtain ⟨i, g, t, rfl, rfl, rfl, hi, hL, ho⟩ := hrel
        have hLle := hL.le
        have hLs := hL.small
        by_cases hlt : i < 2 * l.length
        · obtain ⟨bl, off, rfl, hcell0⟩ := (HL.out.only ho (by simp)).form (by omega)
          have hm : i % l.length < l.length := Nat.mod_lt _ hpos
          have hcell := hcell0 _ hm
          have HO := Lib.hid ho
          by_cases hy : l.getD (i % l.length) 0 = (k : Int)
          · have HN := Lib.hid (hL.hit hpos hy)
            rw [hy] at hcell
            clear hcell0 hL ho hy
            go_wp2_with fail
            go_roundw
            case rel => exact ⟨i + 1, _, 0, by go_num, by rw [max_cast], rfl, by omega, HN.out, HO.out⟩
            case measure => simp [intOf]; omega
          · have HN := Lib.hid (hL.miss hy)
            have hyb : (l.getD (i % l.length) 0 == (k : Int)) = false := beq_false_of_ne hy
            generalize l.getD (i % l.length) 0 = x at *
            clear hcell0 hL ho hy
            go_wp2_with fail
            go_roundw
            case rel => exact ⟨i + 1, _, t + 1, by go_num, rfl, by go_num, by omega, HN.out, HO.out⟩
            case measure => simp [intOf]; omega
        · obtain rfl : i = 2 * l.length := by omega
          have HG := Lib.hid (hL.most HM.out)
          have HO := Lib.hid ho
          clear hL ho
          go_wp2_with fail
          go_ret2
          exact ⟨two_of (by rw [HX.out, HG.out]), HO.out⟩
    · have HX := Lib.hid (gapR_out hw hc)
      have K2 := fun w' => class_any c w'
      rw [decide_eq_false hc] at K2
      have HC := Lib.hid K2
      clear K hl hw hc hn K2
      go_enter Try.func17, Try.ntmps17
      go_wp2_with fail
      (with_reducible refine HK.out.mono ?_)
      rintro e w1 ⟨rfl, o1⟩
      go_wp2_with fail
      (with_reducible refine (HC.out _).mono ?_)
      rintro e w2 ⟨rfl, rfl⟩
      go_wp2_with fail
      go_ret2
      exact ⟨two_of HX.out, o1⟩
  · rw [chk_no hw] at K
    have HK := Lib.hid K
    have HX := Lib.hid (gapR_no (c := c) hw)
    clear K hl hw hn
    go_enter Try.func17, Try.ntmps17
    go_wp2_with fail
    (with_reducible refine HK.out.mono ?_)
    rintro e w1 ⟨rfl, o1⟩
    go_wp2_with fail
    go_ret2
    exact ⟨two_of HX.out, o1⟩

/-- The outer loop's head. -/
def RG1 (w : World) (l : List Int) (c : Int) (v6 v : Value) (wr : World) : Prop :=
  ∃ i g : Nat, v = .int .i64 i ∧ v6 = .int .i64 g ∧ i ≤ l.length ∧ g ≤ 64 ∧ Most l c i g ∧ Only [] w wr
/-- The inner's. -/
def RG2 (l : List Int) (c : Int) (i : Nat) (wo : World) (v : Value) (wr : World) : Prop :=
  ∃ n : Nat, v = .int .i64 n ∧ 1 ≤ n ∧ n ≤ l.length ∧ (∀ m, 1 ≤ m → m < n → l.getD ((i + m - 1) % l.length) 0 ≠ c) ∧ wr = wo

set_option maxHeartbeats 2000000 in
theorem rgap_any (A : Option Addr) (l : List Int) (cap : Nat) (c : Int) (w : World) (hl : Rd w A l) (hn : l.length ≤ 9223372036854775807) :
    Calls Try.prog 18 #[.slice A l.length cap, .int .i64 c] w fun e w' => e = .returned (two (gapR l c)) ∧ Only [] w w' := by
  have K := rcheck_any A l cap w hl hn
  by_cases hw : IsW l
  · rw [chk_yes hw] at K
    have HK := Lib.hid K
    by_cases hc : 0 ≤ c ∧ c < 3
    · obtain ⟨k, rfl⟩ := Int.eq_ofNat_of_zero_le hc.1
      have hk : k < 3 := by omega
      have HL := Lib.hid hl
      have HX := Lib.hid (gapR_yes hw hk)
      have HM := Lib.hid (hw.has hk)
      have h64 := hw.1
      have hpos := hw.pos
      clear K hl hw hc hn
      go_enter Try.func18, Try.ntmps18
      go_wp2_with fail
      (with_reducible refine HK.out.mono ?_)
      rintro e w1 ⟨rfl, o1⟩
      have HO1 := Lib.hid o1
      clear o1
      go_wp2_with fail
      go_loopw [6, 7, 8] (fun v6 v _ wr => RG1 w l k v6 v wr) (fun _ v _ _ => l.length - (intOf v).toNat)
      case atStart => exact ⟨0, 0, rfl, rfl, by omega, by omega, most_zero l k, HO1.out⟩
      case round =>
        clear HO1
        obtain ⟨i, g, rfl, rfl, hi, hg, hM, ho⟩ := hrel
        by_cases hlt : i < l.length
        · obtain ⟨N, hN, hW⟩ := waits_ex HM.out hlt
          have h1N := hW.one
          have HW := Lib.hid hW
          have HMo := Lib.hid hM
          have HO := Lib.hid ho
          obtain ⟨wo, rfl⟩ : ∃ wo : World, wo = wr := ⟨_, rfl⟩
          clear hM ho hW
          go_wp2_with fail
          go_loopw [8] (fun v wr => RG2 l k i wo v wr) (fun v _ => l.length - (intOf v).toNat)
          case atStart => exact ⟨1, rfl, by omega, by omega, fun m h1 h2 => by omega, rfl⟩
          case round =>
            obtain ⟨n, rfl, hn1, hn2, hno, rfl⟩ := hrel
            obtain ⟨bl, off, rfl, hcell0⟩ := (HL.out.only HO.out (by simp)).form (by omega)
            have hm : (i + n - 1) % l.length < l.length := Nat.mod_lt _ hpos
            have hcell := hcell0 _ hm
            have q0 : ((i : Int) + (n : Int) - 1) % (l.length : Int) = (((i + n - 1) % l.length : Nat) : Int) := by rw [show (i : Int) + (n : Int) - 1 = ((i + n - 1 : Nat) : Int) by omega]; rfl
            have q1 : 0 ≤ ((i : Int) + (n : Int) - 1) % (l.length : Int) := by rw [q0]; omega
            have q2 : ((i : Int) + (n : Int) - 1) % (l.length : Int) < (l.length : Int) := by rw [q0]; omega
            have q3 : (((i : Int) + (n : Int) - 1) % (l.length : Int)).toNat = (i + n - 1) % l.length := by rw [q0]; rfl
            clear q0
            by_cases hy : l.getD ((i + n - 1) % l.length) 0 = (k : Int)
            · have hnN : n = N := (Waits.uniq ⟨hn1, hy, hno⟩ HW.out)
              have HNN := Lib.hid hnN
              have hyb : (l.getD ((i + n - 1) % l.length) 0 != (k : Int)) = false := by rw [hy]; exact bne_self_eq_false _
              generalize l.getD ((i + n - 1) % l.length) 0 = x at *
              clear hcell0 hno hy hnN
              have HM2 := Lib.hid (HMo.out.step hlt HW.out)
              by_cases hgt : g < n
              · have hd : decide ((g : Int) < (n : Int)) = true := decide_eq_true (by omega)
                go_wp2_with fail
                go_roundw
                case rel => exact ⟨i + 1, _, by go_num, rfl, by omega, by omega, by rw [show n = max g N by have := HNN.out; omega]; exact HM2.out, HO.out⟩
                case measure => simp [intOf]; omega
              · have hd : decide ((g : Int) < (n : Int)) = false := decide_eq_false (by omega)
                go_wp2_with fail
                go_roundw
                case rel => exact ⟨i + 1, _, by go_num, rfl, by omega, by omega, by have h := HM2.out; rw [show max g N = g by have := HNN.out; omega] at h; exact h, HO.out⟩
                case measure => simp [intOf]; omega
            · have hyb : (l.getD ((i + n - 1) % l.length) 0 != (k : Int)) = true := by simpa using hy
              have hlt2 : n < N := by
                apply Nat.lt_of_not_le
                intro hle
                by_cases e : n = N
                · subst e
                  exact hy HW.out.hit
                · exact hno N h1N (by omega) HW.out.hit
              have HN := Lib.hid (show RG2 l k i wr (.int .i64 ((n : Int) + 1)) wr from ⟨n + 1, by go_num, by omega, by omega, fun m h1 h2 => by
                by_cases e : m = n
                · subst e; exact hy
                · exact hno m h1 (by omega), rfl⟩)
              generalize l.getD ((i + n - 1) % l.length) 0 = x at *
              clear hcell0 hno hy
              go_wp2_with fail
              go_roundw
              case rel => exact HN.out
              case measure => simp [intOf]; omega
        · obtain rfl : i = l.length := by omega
          have HG := Lib.hid (gap_eq HM.out hM)
          have HO := Lib.hid ho
          clear hM ho
          go_wp2_with fail
          go_ret2
          exact ⟨two_of (by rw [HX.out, HG.out]), HO.out⟩
    · have HX := Lib.hid (gapR_out hw hc)
      rcases (show c < 0 ∨ (0 ≤ c ∧ 3 ≤ c) by omega) with h0 | ⟨h0, h1⟩
      all_goals
        clear K hl hw hc hn
        go_enter Try.func18, Try.ntmps18
        go_wp2_with fail
        (with_reducible refine HK.out.mono ?_)
        rintro e w1 ⟨rfl, o1⟩
        go_wp2_with fail
        go_ret2
        exact ⟨two_of HX.out, o1⟩
  · rw [chk_no hw] at K
    have HK := Lib.hid K
    have HX := Lib.hid (gapR_no (c := c) hw)
    clear K hl hw hn
    go_enter Try.func18, Try.ntmps18
    go_wp2_with fail
    (with_reducible refine HK.out.mono ?_)
    rintro e w1 ⟨rfl, o1⟩
    go_wp2_with fail
    go_ret2
    exact ⟨two_of HX.out, o1⟩
end Go.Proofs.Ytioglpaakmmidaa
