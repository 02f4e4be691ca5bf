/- Next, the program's and the document's. -/
import Derived.Test.YtioglpaakmmidaaWCheck
namespace Go.Proofs.Ytioglpaakmmidaa
open Go.RowKit

def nextV (r : Int × Int × Int) : Value := .tuple #[.int .i64 r.1, .int .i64 r.2.1, .int .i64 r.2.2]
theorem nextR_no {l : List Int} {hand : Int} {b0 b1 b2 : Bool} (h : chkHand l hand ≠ 0) : nextR l hand b0 b1 b2 = (0, 0, chkHand l hand) := if_neg h
theorem chkHand_yes {l : List Int} {k : Nat} (hw : IsW l) (hk : k < l.length) : chkHand l k = 0 := by
  unfold chkHand
  rw [if_pos hw, if_pos (by omega)]
theorem chkHand_out {l : List Int} {hand : Int} (hw : IsW l) (hk : ¬ (0 ≤ hand ∧ hand < l.length)) : chkHand l hand = 1 := by
  unfold chkHand
  rw [if_pos hw, if_neg hk]
theorem chkHand_no {l : List Int} {hand : Int} (hw : ¬ IsW l) : chkHand l hand = 20 := if_neg hw
theorem chkHand_zero {l : List Int} {hand : Int} (h : chkHand l hand = 0) : IsW l ∧ ∃ k : Nat, hand = k ∧ k < l.length := by
  unfold chkHand at h
  by_cases hw : IsW l
  · rw [if_pos hw] at h
    by_cases hk : 0 ≤ hand ∧ hand < l.length
    · exact ⟨hw, hand.toNat, by omega, by omega⟩
    · rw [if_neg hk] at h
      cases h
  · rw [if_neg hw] at h
    cases h
theorem nextR_some {l : List Int} {k x c : Nat} {b0 b1 b2 : Bool} (hw : IsW l) (hk : k < l.length) (hx : l.getD k 0 = (x : Int)) (hp : pickC b0 b1 b2 x = some c) : nextR l k b0 b1 b2 = ((c : Int), (((k + 1) % l.length : Nat) : Int), 0) := by
  unfold nextR
  rw [if_pos (chkHand_yes hw hk), Int.toNat_natCast, hx, Int.toNat_natCast, hp]
theorem nextR_none {l : List Int} {k x : Nat} {b0 b1 b2 : Bool} (hw : IsW l) (hk : k < l.length) (hx : l.getD k 0 = (x : Int)) (hp : pickC b0 b1 b2 x = none) : nextR l k b0 b1 b2 = (0, 0, 3) := by
  unfold nextR
  rw [if_pos (chkHand_yes hw hk), Int.toNat_natCast, hx, Int.toNat_natCast, hp]
theorem nextV_of {r : Int × Int × Int} {a b c : Int} (h : r = (a, b, c)) : Ending.returned (.tuple #[.int .i64 a, .int .i64 b, .int .i64 c]) = .returned (nextV r) := by
  rw [h]
  rfl

/-- The loop's head: the first k classes from x on do not wait. -/
def NRel (w : World) (B x : Nat) (b0 b1 b2 : Bool) (v : Value) (wr : World) : Prop :=
  ∃ k : Nat, v = .int .i64 k ∧ k ≤ 3 ∧ (∀ j, j < k → bsel b0 b1 b2 ((x + j) % 3) = false) ∧ Bk wr B 23 #[.bool b0, .bool b1, .bool b2] ∧ Only [] w wr

set_option maxHeartbeats 1000000 in
theorem next_any (A : Option Addr) (l : List Int) (cap : Nat) (hand : Int) (b0 b1 b2 : Bool) (w : World) (hl : Rd w A l) (hn : l.length ≤ 9223372036854775807) :
    Calls Try.prog 11 #[.slice A l.length cap, .int .i64 hand, .agg #[.bool b0, .bool b1, .bool b2]] w fun e w' => e = .returned (nextV (nextR l hand b0 b1 b2)) ∧ Only [] w w' := by
  have K := fun o => checkHand_any A l cap hand (w.alloc o) (hl.only ((Only.refl [] _).alloc o) (by simp)) hn
  by_cases hc : chkHand l hand = 0
  · rw [hc] at K
    have HK := Lib.hid K
    have HL := Lib.hid hl
    obtain ⟨hw, k, rfl, hk⟩ := chkHand_zero hc
    have hx0 := hw.at_ hk
    obtain ⟨x, hx⟩ := Int.eq_ofNat_of_zero_le hx0.1
    have hx3 : x < 3 := by omega
    have HSome := Lib.hid (fun c => nextR_some (b0 := b0) (b1 := b1) (b2 := b2) (c := c) hw hk hx)
    have HNone := Lib.hid (nextR_none (b0 := b0) (b1 := b1) (b2 := b2) hw hk hx)
    have HX := Lib.hid hx
    have h64 := hw.1
    clear K hl hc hw hx0 hx hn
    go_enter Try.func11, Try.ntmps11
    go_wp2_with fail
    (with_reducible refine (HK.out _).mono ?_)
    rintro e w1 ⟨rfl, o1⟩
    have N0 := Lib.hid (show NRel w w.heap.size x b0 b1 b2 (.int .i64 0) w1 from ⟨0, rfl, by omega, fun j hj => absurd hj (Nat.not_lt_zero j), (Bk.made w _ _).only o1 (by simp), ((Only.refl _ _).alloc _).trans o1 (by simp)⟩)
    clear o1
    go_wp2_with fail
    go_loopw [16] (fun v wr => NRel w w.heap.size x b0 b1 b2 v wr) (fun v _ => 3 - (intOf v).toNat)
    case atStart => exact N0.out
    case round =>
      clear N0
      obtain ⟨j, rfl, hj, hno, hb, ho⟩ := hrel
      generalize w.heap.size = B at *
      by_cases hj3 : j < 3
      · obtain ⟨bl, off, rfl, hcell0⟩ := (HL.out.only ho (by simp)).form (by omega)
        have hcell := hcell0 k hk
        rw [HX.out] at hcell
        have hm : (x + j) % 3 < 3 := Nat.mod_lt _ (by omega)
        have hcl := hb.cell0 (bsel_at b0 b1 b2 hm)
        by_cases hy : bsel b0 b1 b2 ((x + j) % 3) = true
        · rw [hy] at hcl
          have HX2 := Lib.hid (HSome.out _ (pickC_at hj3 hno hy))
          have HO := Lib.hid ho
          clear hcell0 hno hb ho hy
          go_wp2_with fail
          have e2 : ((k : Int) + 1).tmod (l.length : Int) = ((k : Int) + 1) % (l.length : Int) := Int.tmod_eq_emod_of_nonneg (by omega)
          have e3 : ((l.length : Int) == 0) = false := beq_false_of_ne (by omega)
          have e1 : IntKind.i64.wrap ((k : Int) + 1) = (k : Int) + 1 := IntWalk.i64_in _ (by omega)
          go_quiet (fail)
          clear e1 e2 e3
          go_wp2
          go_ret3
          exact ⟨nextV_of (by rw [HX2.out]; simp), HO.out.drewN _⟩
        · have N2 := Lib.hid (show NRel w B x b0 b1 b2 (.int .i64 ((j : Int) + 1)) wr from ⟨j + 1, by go_num, by omega, fun i hi => by
            by_cases hij : i = j
            · subst hij; simpa using hy
            · exact hno i (by omega), hb, ho⟩)
          rw [show bsel b0 b1 b2 ((x + j) % 3) = false by simpa using hy] at hcl
          clear hcell0 hno hb ho hy
          go_wp2_with fail
          go_roundw
          case rel => exact N2.out
          case measure => simp [intOf]; omega
      · have HX2 := Lib.hid (HNone.out (pickC_none fun i hi => hno i (by omega)))
        have HO := Lib.hid ho
        clear hno hb ho
        go_wp2_with fail
        go_ret3
        exact ⟨nextV_of HX2.out, HO.out⟩
  · have HK := Lib.hid K
    have HX := Lib.hid (nextR_no (b0 := b0) (b1 := b1) (b2 := b2) hc)
    have hcb : (chkHand l hand != 0) = true := by simpa using hc
    generalize chkHand l hand = r at *
    clear K hl hc
    go_enter Try.func11, Try.ntmps11
    go_wp2_with fail
    (with_reducible refine (HK.out _).mono ?_)
    rintro e w1 ⟨rfl, o1⟩
    go_wp2_with fail
    go_ret3
    exact ⟨nextV_of HX.out, ((Only.refl _ _).alloc _).trans o1 (by simp)⟩
set_option maxHeartbeats 1000000 in
theorem rnext_any (A : Option Addr) (l : List Int) (cap : Nat) (hand : Int) (b0 b1 b2 : Bool) (w : World) (hl : Rd w A l) (hn : l.length ≤ 9223372036854775807) :
    Calls Try.prog 12 #[.slice A l.length cap, .int .i64 hand, .agg #[.bool b0, .bool b1, .bool b2]] w fun e w' => e = .returned (nextV (nextR l hand b0 b1 b2)) ∧ Only [] w w' := by
  have K := fun o => rcheck_any A l cap (w.alloc o) (hl.only ((Only.refl [] _).alloc o) (by simp)) hn
  by_cases hc : chkHand l hand = 0
  · rw [chk_yes (chkHand_zero hc).1] at K
    have HK := Lib.hid K
    have HL := Lib.hid hl
    obtain ⟨hw, k, rfl, hk⟩ := chkHand_zero hc
    have hx0 := hw.at_ hk
    obtain ⟨x, hx⟩ := Int.eq_ofNat_of_zero_le hx0.1
    have hx3 : x < 3 := by omega
    have HSome := Lib.hid (fun c => nextR_some (b0 := b0) (b1 := b1) (b2 := b2) (c := c) hw hk hx)
    have HNone := Lib.hid (nextR_none (b0 := b0) (b1 := b1) (b2 := b2) hw hk hx)
    have HX := Lib.hid hx
    have h64 := hw.1
    clear K hl hc hw hx0 hx hn
    go_enter Try.func12, Try.ntmps12
    go_wp2_with fail
    (with_reducible refine (HK.out _).mono ?_)
    rintro e w1 ⟨rfl, o1⟩
    have N0 := Lib.hid (show NRel w w.heap.size x b0 b1 b2 (.int .i64 0) w1 from ⟨0, rfl, by omega, fun j hj => absurd hj (Nat.not_lt_zero j), (Bk.made w _ _).only o1 (by simp), ((Only.refl _ _).alloc _).trans o1 (by simp)⟩)
    clear o1
    go_wp2_with fail
    go_loopw [9] (fun v wr => NRel w w.heap.size x b0 b1 b2 v wr) (fun v _ => 3 - (intOf v).toNat)
    case atStart => exact N0.out
    case round =>
      clear N0
      obtain ⟨j, rfl, hj, hno, hb, ho⟩ := hrel
      generalize w.heap.size = B at *
      by_cases hj3 : j < 3
      · obtain ⟨bl, off, rfl, hcell0⟩ := (HL.out.only ho (by simp)).form (by omega)
        have hcell := hcell0 k hk
        rw [HX.out] at hcell
        have hm : (x + j) % 3 < 3 := Nat.mod_lt _ (by omega)
        have hcl := hb.cell0 (bsel_at b0 b1 b2 hm)
        by_cases hy : bsel b0 b1 b2 ((x + j) % 3) = true
        · rw [hy] at hcl
          have HX2 := Lib.hid (HSome.out _ (pickC_at hj3 hno hy))
          have HO := Lib.hid ho
          clear hcell0 hno hb ho hy
          go_wp2_with fail
          have e2 : ((k : Int) + 1).tmod (l.length : Int) = ((k : Int) + 1) % (l.length : Int) := Int.tmod_eq_emod_of_nonneg (by omega)
          have e3 : ((l.length : Int) == 0) = false := beq_false_of_ne (by omega)
          have e1 : IntKind.i64.wrap ((k : Int) + 1) = (k : Int) + 1 := IntWalk.i64_in _ (by omega)
          go_quiet (fail)
          clear e1 e2 e3
          go_wp2
          go_ret3
          exact ⟨nextV_of (by rw [HX2.out]; simp), HO.out.drewN _⟩
        · have N2 := Lib.hid (show NRel w B x b0 b1 b2 (.int .i64 ((j : Int) + 1)) wr from ⟨j + 1, by go_num, by omega, fun i hi => by
            by_cases hij : i = j
            · subst hij; simpa using hy
            · exact hno i (by omega), hb, ho⟩)
          rw [show bsel b0 b1 b2 ((x + j) % 3) = false by simpa using hy] at hcl
          clear hcell0 hno hb ho hy
          go_wp2_with fail
          go_roundw
          case rel => exact N2.out
          case measure => simp [intOf]; omega
      · have HX2 := Lib.hid (HNone.out (pickC_none fun i hi => hno i (by omega)))
        have HO := Lib.hid ho
        clear hno hb ho
        go_wp2_with fail
        go_ret3
        exact ⟨nextV_of HX2.out, HO.out⟩
  · have HX := Lib.hid (nextR_no (b0 := b0) (b1 := b1) (b2 := b2) hc)
    by_cases hw : IsW l
    · rw [chk_yes hw] at K
      have HK := Lib.hid K
      have HC := Lib.hid (chkHand_out (hand := hand) hw (fun hk => hc (by
        obtain ⟨k, rfl⟩ := Int.eq_ofNat_of_zero_le hk.1
        exact chkHand_yes hw (by omega))))
      by_cases h0 : hand < 0
      · clear K hl hc hw
        go_enter Try.func12, Try.ntmps12
        go_wp2_with fail
        (with_reducible refine (HK.out _).mono ?_)
        rintro e w1 ⟨rfl, o1⟩
        go_wp2_with fail
        go_ret3
        exact ⟨nextV_of (by rw [HX.out, HC.out]), ((Only.refl _ _).alloc _).trans o1 (by simp)⟩
      · obtain ⟨k, rfl⟩ := Int.eq_ofNat_of_zero_le (show 0 ≤ hand by omega)
        have hk : ¬ k < l.length := fun hk => hc (chkHand_yes hw hk)
        clear K hl hc hw
        go_enter Try.func12, Try.ntmps12
        go_wp2_with fail
        (with_reducible refine (HK.out _).mono ?_)
        rintro e w1 ⟨rfl, o1⟩
        go_wp2_with fail
        go_ret3
        exact ⟨nextV_of (by rw [HX.out, HC.out]), ((Only.refl _ _).alloc _).trans o1 (by simp)⟩
    · rw [chk_no hw] at K
      have HK := Lib.hid K
      have HC := Lib.hid (chkHand_no (hand := hand) hw)
      clear K hl hc hw
      go_enter Try.func12, Try.ntmps12
      go_wp2_with fail
      (with_reducible refine (HK.out _).mono ?_)
      rintro e w1 ⟨rfl, o1⟩
      go_wp2_with fail
      go_ret3
      exact ⟨nextV_of (by rw [HX.out, HC.out]), ((Only.refl _ _).alloc _).trans o1 (by simp)⟩
end Go.Proofs.Ytioglpaakmmidaa
