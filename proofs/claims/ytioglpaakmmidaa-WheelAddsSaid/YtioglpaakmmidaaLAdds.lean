/- The law WheelAdds, walked. -/
import Derived.Test.YtioglpaakmmidaaLGaps
namespace Go.Proofs.Ytioglpaakmmidaa
open Go.RowKit

theorem servF_yes {l : List Int} {h T : Nat} (hc : chkHand l h = 0) : servF l h T = fun c => ((cnt l h c T : Nat) : Int) := by
  funext c
  unfold servF
  rw [if_pos ⟨hc, by omega⟩]
  rfl
theorem servE_yes {l : List Int} {h T : Nat} (hc : chkHand l h = 0) : servE l h T = 0 := by
  unfold servE
  rw [if_pos hc, if_pos (by omega)]
theorem servF_no {l : List Int} {hand turns : Int} (h : servE l hand turns ≠ 0) : servF l hand turns = fun _ => 0 := by
  funext c
  unfold servF
  by_cases hc : chkHand l hand = 0
  · by_cases ht : 0 ≤ turns
    · unfold servE at h
      rw [if_pos hc, if_pos ht] at h
      exact absurd rfl h
    · rw [if_neg (fun hh => ht hh.2)]
  · rw [if_neg (fun hh => hc hh.1)]
theorem servE_zero {l : List Int} {hand turns : Int} (h : servE l hand turns = 0) : chkHand l hand = 0 ∧ 0 ≤ turns := by
  unfold servE at h
  by_cases hc : chkHand l hand = 0
  · rw [if_pos hc] at h
    by_cases ht : 0 ≤ turns
    · exact ⟨hc, ht⟩
    · rw [if_neg ht] at h
      cases h
  · rw [if_neg hc] at h
    exact absurd h hc

set_option maxHeartbeats 2000000 in
theorem adds_no (A : Option Addr) (l : List Int) (cap : Nat) (hand a b : Int) (w : World) (hl : Rd w A l) (hlen : l.length ≤ 9223372036854775807) (ha : a ≤ 9223372036854775807) (hno : servE l hand a ≠ 0) :
    Calls Try.prog 9 #[.slice A l.length cap, .int .i64 hand, .int .i64 a, .int .i64 b] w fun e w' => e = .returned (.bool true) ∧ Only [] w w' := by
  have HL := Lib.hid hl
  have hf := servF_no hno
  have K1 := served_any A l cap hand a w hl hlen ha
  rw [hf] at K1
  simp only [servV, c3] at K1
  obtain ⟨x, hx⟩ : ∃ x, x = servE l hand a := ⟨_, rfl⟩
  rw [← hx] at K1 hno
  have HK1 := Lib.hid K1
  have HX := Lib.hid hx
  have HF := Lib.hid hf
  have t1 : (x == x) = true := beq_self_eq_true _
  have t2 : (x != 0) = true := by simpa using hno
  have t4 : ∀ w, (Op.equalIn 10000 35 (.agg #[.int .i64 0, .int .i64 0, .int .i64 0]) (.agg #[.int .i64 0, .int .i64 0, .int .i64 0])).run Try.prog w = .ok true w := fun w => by rw [eqInt3]; simp
  clear hl K1 hno hf hx
  go_enter Try.func9, Try.ntmps9
  go_wp2_with fail
  (with_reducible refine HK1.out.mono ?_)
  rintro e w1 ⟨rfl, o1⟩
  have O1 := Lib.hid o1
  have K2 := fun o => rserved_any A l cap hand a (w1.alloc o) (HL.out.only (o1.alloc o) (by simp)) hlen ha
  rw [HF.out, ← HX.out] at K2
  simp only [servV, c3] at K2
  have HK2 := Lib.hid K2
  clear o1 K2 HK1
  go_wp2_with fail
  (with_reducible refine (HK2.out _).mono ?_)
  rintro e w2 ⟨rfl, o2⟩
  have O2 := Lib.hid ((O1.out.alloc _).trans o2 (by simp))
  obtain ⟨d0, d1, d2⟩ := c3_cells ((Bk.made w1 35 (c3 fun _ => 0)).only o2 (by simp))
  have hz := ((Bk.made w1 35 (c3 fun _ => 0)).only o2 (by simp)).lt
  clear o2 HK2
  go_wp2_with fail
  (with_reducible refine (awake_any _).mono ?_)
  rintro e w3 ⟨rfl, o3⟩
  have O3 := Lib.hid ((O2.out.alloc _).trans o3 (by simp))
  clear o3
  go_wp2_with fail
  go_ret
  exact ⟨rfl, O3.out⟩

set_option maxHeartbeats 2000000 in
theorem adds_far (A : Option Addr) (l : List Int) (cap : Nat) (hand a b : Int) (w : World) (hl : Rd w A l) (hlen : l.length ≤ 9223372036854775807) (ha : a ≤ 9223372036854775807) (hyes : servE l hand a = 0)
    (hfar : b < 0 ∨ (0 ≤ b ∧ 4611686018427387904 < b) ∨ (0 ≤ b ∧ b ≤ 4611686018427387904 ∧ 4611686018427387904 - b < a)) :
    Calls Try.prog 9 #[.slice A l.length cap, .int .i64 hand, .int .i64 a, .int .i64 b] w fun e w' => e = .returned (.bool true) ∧ Only [] w w' := by
  have K1 := served_any A l cap hand a w hl hlen ha
  rw [hyes] at K1
  obtain ⟨f, hf⟩ : ∃ f, f = servF l hand a := ⟨_, rfl⟩
  rw [← hf] at K1
  simp only [servV, c3] at K1
  have HK1 := Lib.hid K1
  clear hl K1 hyes hf
  rcases hfar with h0 | ⟨h0, h1⟩ | ⟨h0, h1, h2⟩
  all_goals
    go_enter Try.func9, Try.ntmps9
    go_wp2_with fail
    (with_reducible refine HK1.out.mono ?_)
    rintro e w1 ⟨rfl, o1⟩
    have O1 := Lib.hid (o1.alloc (.cells #[.int .i64 (f 0), .int .i64 (f 1), .int .i64 (f 2)] 35))
    clear o1 HK1
    go_wp2_with fail
    (with_reducible refine (awake_any _).mono ?_)
    rintro e w3 ⟨rfl, o3⟩
    have O3 := Lib.hid (O1.out.trans o3 (by simp))
    clear o3
    go_wp2_with fail
    go_ret
    exact ⟨rfl, O3.out⟩

/-- The last loop's head: three counts in memory. -/
def A1 (w : World) (f g z : Int → Int) (Bf Bg Bz : Nat) (v : Value) (wr : World) : Prop :=
  ∃ k : Nat, v = .int .i64 k ∧ k ≤ 3 ∧ Bk wr Bf 35 (c3 f) ∧ Bk wr Bg 35 (c3 g) ∧ Bk wr Bz 35 (c3 z) ∧ Only [] w wr

set_option maxRecDepth 100000 in
set_option maxHeartbeats 4000000 in
theorem adds_yes (A : Option Addr) (l : List Int) (cap h T U : Nat) (w : World) (hl : Rd w A l) (hw : IsW l) (hh : h < l.length) (hT : (T : Int) ≤ 4611686018427387904 - U) (hU : (U : Int) ≤ 4611686018427387904) :
    Calls Try.prog 9 #[.slice A l.length cap, .int .i64 h, .int .i64 T, .int .i64 U] w fun e w' => e = .returned (.bool true) ∧ Only [] w w' := by
  have HL := Lib.hid hl
  have h64 := hw.1
  have hpos := hw.pos
  have hc1 := chkHand_yes hw hh
  have hm : (h + T % l.length) % l.length < l.length := Nat.mod_lt _ hpos
  have hc2 := chkHand_yes hw hm
  have K1 := served_any A l cap h T w hl (by omega) (by omega)
  have K2 := fun wx (ox : Only [] w wx) => served_any A l cap ((h + T % l.length) % l.length : Nat) U wx (hl.only ox (by simp)) (by omega) (by omega)
  have K3 := fun wx (ox : Only [] w wx) => served_any A l cap h ((T : Int) + (U : Int)) wx (hl.only ox (by simp)) (by omega) (by omega)
  have eTU : (T : Int) + (U : Int) = ((T + U : Nat) : Int) := rfl
  rw [servF_yes hc1, servE_yes hc1] at K1
  rw [servF_yes hc2, servE_yes hc2] at K2
  rw [eTU, servF_yes hc1, servE_yes hc1, ← eTU] at K3
  obtain ⟨f, hf⟩ : ∃ f : Int → Int, f = fun c => ((cnt l h c T : Nat) : Int) := ⟨_, rfl⟩
  obtain ⟨g, hg⟩ : ∃ g : Int → Int, g = fun c => ((cnt l ((h + T % l.length) % l.length) c U : Nat) : Int) := ⟨_, rfl⟩
  obtain ⟨z, hz⟩ : ∃ z : Int → Int, z = fun c => ((cnt l h c (T + U) : Nat) : Int) := ⟨_, rfl⟩
  rw [← hf] at K1
  rw [← hg] at K2
  rw [← hz] at K3
  have HSum := Lib.hid (show ∀ c, f c + g c = z c from fun c => by
    rw [hf, hg, hz]
    simp only
    rw [cnt_add, show (h + T % l.length) % l.length = (h + T) % l.length from Nat.add_mod_mod _ _ _]
    rfl)
  have HBf := Lib.hid (show ∀ c, 0 ≤ f c ∧ f c ≤ T from fun c => by
    rw [hf]
    have := cnt_le l h c T
    simp only
    omega)
  have HBg := Lib.hid (show ∀ c, 0 ≤ g c ∧ g c ≤ U from fun c => by
    rw [hg]
    have := cnt_le l ((h + T % l.length) % l.length) c U
    simp only
    omega)
  have hall : z 0 + z 1 + z 2 = (T : Int) + (U : Int) := by
    rw [hz]
    have := cnt_all hw h (T + U)
    simp only
    omega
  have HBz := Lib.hid (show ∀ c, 0 ≤ z c ∧ z c ≤ (T : Int) + U from fun c => by
    rw [hz]
    have := cnt_le l h c (T + U)
    simp only
    omega)
  simp only [servV, c3] at K1 K2 K3
  have HK1 := Lib.hid K1
  have HK2 := Lib.hid K2
  have HK3 := Lib.hid K3
  have HALL := Lib.hid hall
  have q1 : (T : Int) % (l.length : Int) = ((T % l.length : Nat) : Int) := rfl
  have q2 : ((h : Int) + ((T % l.length : Nat) : Int)) % (l.length : Int) = (((h + T % l.length) % l.length : Nat) : Int) := rfl
  have hml : T % l.length < l.length := Nat.mod_lt _ hpos
  obtain ⟨r, hr⟩ : ∃ r, r = T % l.length := ⟨_, rfl⟩
  rw [← hr] at q1 q2 hml HK2
  obtain ⟨y, hy⟩ : ∃ y, y = (h + r) % l.length := ⟨_, rfl⟩
  rw [← hy] at q2 HK2
  have hnil : ¬ l = [] := fun e => by rw [e] at hpos; exact Nat.lt_irrefl _ hpos
  clear hl K1 K2 K3 hf hg hz hall hw hc1 hc2 hm eTU hr hy
  go_enter Try.func9, Try.ntmps9
  go_wp2_with fail
  (with_reducible refine HK1.out.mono ?_)
  rintro e w1 ⟨rfl, o1⟩
  have O1 := Lib.hid (o1.alloc (.cells (c3 f) 35))
  have B1 := Lib.hid (Bk.made w1 35 (c3 f))
  have H2 := Lib.hid (HK2.out (w1.alloc (.cells #[.int .i64 (f 0), .int .i64 (f 1), .int .i64 (f 2)] 35)) O1.out)
  clear o1 HK1 HK2
  go_wp2_with fail
  (with_reducible refine H2.out.mono ?_)
  rintro e w2 ⟨rfl, o2⟩
  have O2 := Lib.hid ((O1.out.trans o2 (by simp)).alloc (.cells (c3 g) 35))
  have B1' := Lib.hid ((B1.out.only o2 (by simp)).alloc (.cells (c3 g) 35))
  have B2 := Lib.hid (Bk.made w2 35 (c3 g))
  have H3 := Lib.hid (HK3.out (w2.alloc (.cells #[.int .i64 (g 0), .int .i64 (g 1), .int .i64 (g 2)] 35)) O2.out)
  clear o2 HK3 H2 q1 q2
  go_wp2_with fail
  (with_reducible refine H3.out.mono ?_)
  rintro e w3 ⟨rfl, o3⟩
  have N0 := Lib.hid (show A1 w f g z w1.heap.size w2.heap.size w3.heap.size (.int .i64 0) (w3.alloc (.cells (c3 z) 35)) from
    ⟨0, rfl, by omega, (B1'.out.only o3 (by simp)).alloc _, (B2.out.only o3 (by simp)).alloc _, Bk.made _ _ _, (O2.out.trans o3 (by simp)).alloc _⟩)
  clear o3 H3 O1 O2 B1 B1' B2
  go_wp2_with fail
  go_loopw [17] (fun v wr => A1 w f g z w1.heap.size w2.heap.size w3.heap.size v wr) (fun v _ => 3 - (intOf v).toNat)
  case atStart => exact N0.out
  case round =>
    clear N0
    generalize w1.heap.size = B1 at *
    generalize w2.heap.size = B2 at *
    generalize w3.heap.size = B3 at *
    obtain ⟨k, rfl, hk, b1, b2, b3, ho⟩ := hrel
    by_cases hk3 : k < 3
    · have g1 := b1.cell0 (c3_at f hk3)
      have g2 := b2.cell0 (c3_at g hk3)
      have g3 := b3.cell0 (c3_at z hk3)
      have s := HSum.out k
      have f1 := HBf.out k
      have f2 := HBg.out k
      have HN := Lib.hid (fun q => show A1 w f g z B1 B2 B3 (.int .i64 ((k : Int) + 1)) (wr.drewN q) from ⟨k + 1, by go_num, by omega, b1.drewN q, b2.drewN q, b3.drewN q, ho.drewN q⟩)
      generalize f k = xf at *
      generalize g k = xg at *
      generalize z k = xz at *
      have p1 : 0 ≤ (k : Int) := by omega
      have p2 : (k : Int) < 3 := by omega
      have e6 : IntKind.i64.wrap (xf + xg) = xz := by rw [s]; exact IntWalk.i64_in _ (by omega)
      have t1 : (xz != xz) = false := bne_self_eq_false _
      clear b1 b2 b3 ho s
      go_wp2_with fail
      go_quiet (fail)
      clear e6
      go_wp2_with fail
      go_roundw
      case rel => exact HN.out _
      case measure => simp [intOf]; omega
    · obtain ⟨c0, c1, c2⟩ := c3_cells b3
      have f0 := HBz.out 0
      have f1 := HBz.out 1
      have f2 := HBz.out 2
      have hs := HALL.out
      have hs1 : z 0 + z 1 ≤ (T : Int) + (U : Int) := by omega
      have hs2 : z 0 + z 1 + z 2 ≤ (T : Int) + (U : Int) := by omega
      have t1 : (z 0 + z 1 + z 2 == (T : Int) + (U : Int)) = true := by rw [hs]; exact beq_self_eq_true _
      have HO := Lib.hid ho
      generalize z 0 = z0 at *
      generalize z 1 = z1 at *
      generalize z 2 = z2 at *
      clear b1 b2 b3 ho hs
      go_wp2_with fail
      (with_reducible refine (awake_any _).mono ?_)
      rintro e w5 ⟨rfl, o5⟩
      have O5 := Lib.hid (HO.out.trans o5 (by simp))
      clear o5
      go_wp2_with fail
      go_ret
      exact ⟨rfl, O5.out⟩

theorem adds_any (A : Option Addr) (l : List Int) (cap : Nat) (hand a b : Int) (w : World) (hl : Rd w A l) (hlen : l.length ≤ 9223372036854775807) (ha : a ≤ 9223372036854775807) :
    Calls Try.prog 9 #[.slice A l.length cap, .int .i64 hand, .int .i64 a, .int .i64 b] w fun e w' => e = .returned (.bool true) ∧ Only [] w w' := by
  by_cases he : servE l hand a = 0
  · obtain ⟨hc, ha0⟩ := servE_zero he
    by_cases hfar : b < 0 ∨ (0 ≤ b ∧ 4611686018427387904 < b) ∨ (0 ≤ b ∧ b ≤ 4611686018427387904 ∧ 4611686018427387904 - b < a)
    · exact adds_far A l cap hand a b w hl hlen ha he hfar
    · obtain ⟨hw, h, rfl, hh⟩ := chkHand_zero hc
      have hb0 : 0 ≤ b := by omega
      obtain ⟨U, rfl⟩ := Int.eq_ofNat_of_zero_le hb0
      obtain ⟨T, rfl⟩ := Int.eq_ofNat_of_zero_le ha0
      exact adds_yes A l cap h T U w hl hw hh (by omega) (by omega)
  · exact adds_no A l cap hand a b w hl hlen ha he
end Go.Proofs.Ytioglpaakmmidaa
