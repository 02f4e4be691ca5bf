/- The law WheelServes, walked. -/
import Derived.Test.YtioglpaakmmidaaLWaits
namespace Go.Proofs.Ytioglpaakmmidaa
open Go.RowKit

/-- The loop's head: n turns have passed, the class's slot was not met. -/
def V1 (w : World) (l : List Int) (h N : Nat) (v1 v13 : Value) (wr : World) : Prop :=
  ∃ n : Nat, v1 = .int .i64 (((h + n) % l.length : Nat) : Int) ∧ v13 = .int .i64 n ∧ n < N ∧ Only [] w wr

theorem u64_nonneg (x : Int) : 0 ≤ IntKind.u64.wrap x := by
  unfold IntKind.wrap
  simp [IntKind.signed, IntKind.bits]
  exact Int.emod_nonneg _ (by decide)
theorem third (x : Int) : ∃ k : Nat, k < 3 ∧ wrap64 ((IntKind.u64.wrap x).tmod 3) = (k : Int) := by
  have h := u64_nonneg x
  rw [Int.tmod_eq_emod_of_nonneg h]
  have h1 := Int.emod_nonneg (IntKind.u64.wrap x) (show (3 : Int) ≠ 0 by decide)
  have h2 := Int.emod_lt_of_pos (IntKind.u64.wrap x) (show (0 : Int) < 3 by decide)
  rw [wrap64_in (by omega) (by omega)]
  exact ⟨(IntKind.u64.wrap x % 3).toNat, by omega, by omega⟩
theorem sets3 (k1 k2 c : Nat) (hc : c < 3) : ∃ y0 y1 y2, ((([.bool false, .bool false, .bool false] : List Value).set k1 (.bool true)).set k2 (.bool true)).set c (.bool true) = [.bool y0, .bool y1, .bool y2] ∧ bsel y0 y1 y2 c = true := by
  have h3 : c = 0 ∨ c = 1 ∨ c = 2 := by omega
  have each : ∀ (k : Nat) (a b d : Bool), ∃ y0 y1 y2, ([.bool a, .bool b, .bool d] : List Value).set k (.bool true) = [.bool y0, .bool y1, .bool y2] := by
    intro k a b d
    match k with
    | 0 => exact ⟨_, _, _, rfl⟩
    | 1 => exact ⟨_, _, _, rfl⟩
    | 2 => exact ⟨_, _, _, rfl⟩
    | k + 3 => exact ⟨a, b, d, rfl⟩
  obtain ⟨a0, a1, a2, e1⟩ := each k1 false false false
  obtain ⟨b0, b1, b2, e2⟩ := each k2 a0 a1 a2
  rw [e1, e2]
  rcases h3 with rfl | rfl | rfl
  · exact ⟨true, b1, b2, rfl, rfl⟩
  · exact ⟨b0, true, b2, rfl, rfl⟩
  · exact ⟨b0, b1, true, rfl, rfl⟩
theorem sets1 (c : Nat) (hc : c < 3) : ∃ y0 y1 y2, (([.bool false, .bool false, .bool false] : List Value).set c (.bool true)) = [.bool y0, .bool y1, .bool y2] ∧ bsel y0 y1 y2 c = true := by
  have h3 : c = 0 ∨ c = 1 ∨ c = 2 := by omega
  rcases h3 with rfl | rfl | rfl
  · exact ⟨true, false, false, rfl, rfl⟩
  · exact ⟨false, true, false, rfl, rfl⟩
  · exact ⟨false, false, true, rfl, rfl⟩
theorem pickC_ex {b0 b1 b2 : Bool} {c : Nat} (hc : c < 3) (h : bsel b0 b1 b2 c = true) (x : Nat) : ∃ k, pickC b0 b1 b2 x = some k ∧ k < 3 ∧ bsel b0 b1 b2 k = true ∧ (x = c → k = c) := by
  unfold pickC
  by_cases h0 : bsel b0 b1 b2 (x % 3) = true
  · exact ⟨_, if_pos h0, Nat.mod_lt _ (by omega), h0, fun e => by omega⟩
  · rw [if_neg h0]
    by_cases h1 : bsel b0 b1 b2 ((x + 1) % 3) = true
    · exact ⟨_, if_pos h1, Nat.mod_lt _ (by omega), h1, fun e => by
        subst e
        rw [Nat.mod_eq_of_lt hc] at h0
        exact absurd h h0⟩
    · rw [if_neg h1]
      by_cases h2 : bsel b0 b1 b2 ((x + 2) % 3) = true
      · exact ⟨_, if_pos h2, Nat.mod_lt _ (by omega), h2, fun e => by
          subst e
          rw [Nat.mod_eq_of_lt hc] at h0
          exact absurd h h0⟩
      · exfalso
        have hcc : c = x % 3 ∨ c = (x + 1) % 3 ∨ c = (x + 2) % 3 := by omega
        rcases hcc with e | e | e
        · exact h0 (by rw [← e]; exact h)
        · exact h1 (by rw [← e]; exact h)
        · exact h2 (by rw [← e]; exact h)

set_option maxRecDepth 100000 in
set_option maxHeartbeats 4000000 in
theorem serves_yes (A B : Option Addr) (l os : List Int) (cap cap2 c h : Nat) (w : World) (hl : Rd w A l) (hos : Rd w B os) (hlen2 : os.length ≤ 9223372036854775807) (hw : IsW l) (hc : c < 3) (hh : h < l.length) :
    Calls Try.prog 6 #[.slice A l.length cap, .int .i64 h, .int .i64 c, .slice B os.length cap2] w fun e w' => e = .returned (.bool true) ∧ Only [] w w' := by
  have HL := Lib.hid hl
  have HS := Lib.hid hos
  have HW := Lib.hid hw
  have h64 := hw.1
  have hpos := hw.pos
  have K1 := gap_any A l cap c w hl (by omega)
  rw [gapR_yes hw hc] at K1
  simp only [two] at K1
  have HK1 := Lib.hid K1
  have hin := hw.has hc
  have hg1 := gap_pos hin
  have hg2 := gap_le hin
  obtain ⟨N, hN, hWt⟩ := waits_ex hin hh
  have hNg := (gap_most hin).up h N hh hWt
  have HWt := Lib.hid hWt
  have h1N := hWt.one
  obtain ⟨g, hg⟩ : ∃ g, g = gap l c := ⟨_, rfl⟩
  rw [← hg] at HK1 hg1 hg2 hNg
  clear hl hos K1 hw hin hWt hg
  have d1 : decide ((h : Int) < 0) = false := decide_eq_false (by omega)
  have d2 : decide ((g : Int) < 1) = false := decide_eq_false (by omega)
  have d3 : decide (l.length < g) = false := decide_eq_false (by omega)
  have d4 : decide (l.length ≤ h) = false := decide_eq_false (by omega)
  go_enter Try.func6, Try.ntmps6
  go_wp2_with fail
  (with_reducible refine HK1.out.mono ?_)
  rintro e w1 ⟨rfl, o1⟩
  have O1 := Lib.hid o1
  clear o1 HK1
  go_wp2_with fail
  go_loopw [1, 13] (fun v1 v13 wr => V1 w l h N v1 v13 wr) (fun _ v _ => g - (intOf v).toNat)
  case atStart => exact ⟨0, by rw [Nat.add_zero, Nat.mod_eq_of_lt hh], rfl, by omega, O1.out⟩
  case round =>
    clear O1
    obtain ⟨n, rfl, rfl, hn, ho⟩ := hrel
    have HO := Lib.hid ho
    have hk : (h + n) % l.length < l.length := Nat.mod_lt _ hpos
    obtain ⟨x, hx⟩ := Int.eq_ofNat_of_zero_le (HW.out.at_ hk).1
    have hnext : ((h + n) % l.length + 1) % l.length = (h + (n + 1)) % l.length := by rw [Nat.mod_add_mod]; congr 1
    have HLast := Lib.hid (show x ≠ c → n + 1 < N from fun hne => by
      apply Nat.lt_of_le_of_ne (by omega)
      intro e
      have := HWt.out.hit
      rw [← e, show h + (n + 1) - 1 = h + n by omega, hx] at this
      omega)
    have KN := fun b0 b1 b2 wx (hox : Only [] w wx) => next_any A l cap ((h + n) % l.length : Nat) b0 b1 b2 wx (HL.out.only hox (by simp)) (by omega)
    have HSome := Lib.hid (fun b0 b1 b2 k (hp : pickC b0 b1 b2 x = some k) => nextR_some (b0 := b0) (b1 := b1) (b2 := b2) (c := k) HW.out hk hx hp)
    obtain ⟨z, hz⟩ : ∃ z, z = (h + (n + 1)) % l.length := ⟨_, rfl⟩
    rw [hnext, ← hz] at HSome
    have HZ := Lib.hid hz
    have hz1 : z < l.length := by rw [hz]; exact Nat.mod_lt _ hpos
    have hzi : (((h + n) % l.length : Nat) : Int) + 1 = (((h + n) % l.length + 1 : Nat) : Int) := rfl
    have e9 : ((((h + n) % l.length : Nat) : Int) + 1) % (l.length : Int) = (z : Int) := by rw [hzi, hz, ← hnext]; rfl
    have HKN := Lib.hid KN
    have t10 : ¬ l = [] := fun e => by rw [e] at hpos; exact Nat.lt_irrefl _ hpos
    have t9 : ((z : Int) != (z : Int)) = false := bne_self_eq_false _
    clear hx hnext hz KN hzi
    generalize (h + n) % l.length = y at *
    by_cases hlt : n < os.length
    · have hform := fun (o : Obj) => (HS.out.only (ho.alloc o) (by simp)).form (by omega)
      obtain ⟨bl, off, rfl, hcell0⟩ := (HS.out.only ho (by simp)).form (by omega)
      have hcell : ∀ o : Obj, (wr.alloc o).cell? ⟨bl, off + n, none⟩ = some (.int .i64 (os.getD n 0)) := fun o => by
        obtain ⟨bl', off', e, hc'⟩ := hform o
        injection e with e
        injection e with e1 e2
        subst e1 e2
        exact hc' n hlt
      generalize os.getD n 0 = xo at *
      obtain ⟨k1, hk1, e1⟩ := third xo
      obtain ⟨k2, hk2, e2⟩ := third ((IntKind.u64.wrap xo).tdiv 3)
      obtain ⟨y0, y1, y2, e3, hsel⟩ := sets3 k1 k2 c hc
      obtain ⟨kc, hp, hkc, hksel, hkx⟩ := pickC_ex hc hsel x
      have KX := HKN.out y0 y1 y2 (wr.alloc (.cells #[.bool y0, .bool y1, .bool y2] 23)) (ho.alloc _)
      rw [HSome.out _ _ _ _ hp] at KX
      simp only [nextV] at KX
      have HKX := Lib.hid KX
      have HKS := Lib.hid hksel
      clear hcell0 hform hsel hp KX hksel HKN HSome ho
      by_cases hkc2 : kc = c
      · subst hkc2
        have t8 : ((kc : Int) == (kc : Int)) = true := beq_self_eq_true _
        clear hkx
        go_wp2_with fail
        (with_reducible refine HKX.out.mono ?_)
        rintro e w4 ⟨rfl, o4⟩
        have hcl := ((Bk.made wr 23 #[.bool y0, .bool y1, .bool y2]).only o4 (by simp)).cell0 (bsel_at y0 y1 y2 hkc)
        rw [HKS.out] at hcl
        have O4 := Lib.hid ((HO.out.alloc _).trans o4 (by simp))
        clear o4 HKX e1 e2 e3
        go_wp2_with fail
        (with_reducible refine (awake_any _).mono ?_)
        rintro e w5 ⟨rfl, o5⟩
        have O5 := Lib.hid (O4.out.trans o5 (by simp))
        clear o5
        go_wp2_with fail
        go_ret
        exact ⟨rfl, O5.out⟩
      · have hn2 : n + 1 < N := HLast.out (fun e => hkc2 (hkx e))
        have t8 : ((kc : Int) == (c : Int)) = false := beq_false_of_ne (by omega)
        clear hkx hkc2
        go_wp2_with fail
        (with_reducible refine HKX.out.mono ?_)
        rintro e w4 ⟨rfl, o4⟩
        have hcl := ((Bk.made wr 23 #[.bool y0, .bool y1, .bool y2]).only o4 (by simp)).cell0 (bsel_at y0 y1 y2 hkc)
        rw [HKS.out] at hcl
        have O4 := Lib.hid ((HO.out.alloc _).trans o4 (by simp))
        clear o4 HKX e1 e2 e3
        go_wp2_with fail
        go_roundw
        case rel => exact ⟨n + 1, by rw [← HZ.out], by go_num, hn2, O4.out⟩
        case measure => simp [intOf]; omega
    · obtain ⟨y0, y1, y2, e3, hsel⟩ := sets1 c hc
      obtain ⟨kc, hp, hkc, hksel, hkx⟩ := pickC_ex hc hsel x
      have KX := HKN.out y0 y1 y2 (wr.alloc (.cells #[.bool y0, .bool y1, .bool y2] 23)) (ho.alloc _)
      rw [HSome.out _ _ _ _ hp] at KX
      simp only [nextV] at KX
      have HKX := Lib.hid KX
      have HKS := Lib.hid hksel
      clear hsel hp KX hksel HKN HSome ho
      by_cases hkc2 : kc = c
      · subst hkc2
        have t8 : ((kc : Int) == (kc : Int)) = true := beq_self_eq_true _
        clear hkx
        go_wp2_with fail
        (with_reducible refine HKX.out.mono ?_)
        rintro e w4 ⟨rfl, o4⟩
        have hcl := ((Bk.made wr 23 #[.bool y0, .bool y1, .bool y2]).only o4 (by simp)).cell0 (bsel_at y0 y1 y2 hkc)
        rw [HKS.out] at hcl
        have O4 := Lib.hid ((HO.out.alloc _).trans o4 (by simp))
        clear o4 HKX e3
        go_wp2_with fail
        (with_reducible refine (awake_any _).mono ?_)
        rintro e w5 ⟨rfl, o5⟩
        have O5 := Lib.hid (O4.out.trans o5 (by simp))
        clear o5
        go_wp2_with fail
        go_ret
        exact ⟨rfl, O5.out⟩
      · have hn2 : n + 1 < N := HLast.out (fun e => hkc2 (hkx e))
        have t8 : ((kc : Int) == (c : Int)) = false := beq_false_of_ne (by omega)
        clear hkx hkc2
        go_wp2_with fail
        (with_reducible refine HKX.out.mono ?_)
        rintro e w4 ⟨rfl, o4⟩
        have hcl := ((Bk.made wr 23 #[.bool y0, .bool y1, .bool y2]).only o4 (by simp)).cell0 (bsel_at y0 y1 y2 hkc)
        rw [HKS.out] at hcl
        have O4 := Lib.hid ((HO.out.alloc _).trans o4 (by simp))
        clear o4 HKX e3
        go_wp2_with fail
        go_roundw
        case rel => exact ⟨n + 1, by rw [← HZ.out], by go_num, hn2, O4.out⟩
        case measure => simp [intOf]; omega

set_option maxRecDepth 100000 in
set_option maxHeartbeats 4000000 in
theorem serves_no (A B : Option Addr) (l : List Int) (cap n2 cap2 : Nat) (c hand : Int) (w : World) (hl : Rd w A l) (hlen : l.length ≤ 9223372036854775807) (hno : (gapR l c).2 ≠ 0 ∨ hand < 0 ∨ (l.length : Int) ≤ hand) :
    Calls Try.prog 6 #[.slice A l.length cap, .int .i64 hand, .int .i64 c, .slice B n2 cap2] w fun e w' => e = .returned (.bool true) ∧ Only [] w w' := by
  have HL := Lib.hid hl
  obtain ⟨r, hr⟩ : ∃ r, r = gapR l c := ⟨_, rfl⟩
  have K1 := gap_any A l cap c w hl hlen
  rw [← hr] at K1 hno
  simp only [two] at K1
  have HK1 := Lib.hid K1
  have HR := Lib.hid hr
  have t1 : (r.2 == r.2) = true := beq_self_eq_true _
  obtain ⟨x, hx⟩ : ∃ x, x = r.2 := ⟨_, rfl⟩
  rw [← hx] at t1 hno HK1
  obtain ⟨z, hz⟩ : ∃ z, z = r.1 := ⟨_, rfl⟩
  rw [← hz] at HK1
  have HX := Lib.hid hx
  have HZ := Lib.hid hz
  clear hl K1 hr hx hz
  have hways : (x != 0) = true ∨ ((x != 0) = false ∧ hand < 0) ∨ ((x != 0) = false ∧ 0 ≤ hand ∧ (l.length : Int) ≤ hand) := by
    by_cases h0 : x = 0
    · rw [h0] at hno ⊢
      have : hand < 0 ∨ (0 ≤ hand ∧ (l.length : Int) ≤ hand) := by omega
      rcases this with h | h
      · exact .inr (.inl ⟨rfl, h⟩)
      · exact .inr (.inr ⟨rfl, h⟩)
    · exact .inl (by simpa using h0)
  clear hno
  rcases hways with h0 | ⟨h0, h1⟩ | ⟨h0, h1, h2⟩
  all_goals
    go_enter Try.func6, Try.ntmps6
    go_wp2_with fail
    (with_reducible refine HK1.out.mono ?_)
    rintro e w1 ⟨rfl, o1⟩
    have O1 := Lib.hid o1
    have K2 := rgap_any A l cap c w1 (HL.out.only o1 (by simp)) hlen
    rw [← HR.out] at K2
    simp only [two] at K2
    rw [← HX.out, ← HZ.out] at K2
    have HK2 := Lib.hid K2
    clear o1 K2 HK1
    go_wp2_with fail
    (with_reducible refine HK2.out.mono ?_)
    rintro e w2 ⟨rfl, o2⟩
    have O2 := Lib.hid (O1.out.trans o2 (by simp))
    clear o2 HK2
    go_wp2_with fail
    (with_reducible refine (awake_any _).mono ?_)
    rintro e w3 ⟨rfl, o3⟩
    have O3 := Lib.hid (O2.out.trans o3 (by simp))
    clear o3
    go_wp2_with fail
    go_ret
    exact ⟨rfl, O3.out⟩

theorem serves_any (A B : Option Addr) (l os : List Int) (cap cap2 : Nat) (hand c : Int) (w : World) (hl : Rd w A l) (hos : Rd w B os) (hlen : l.length ≤ 9223372036854775807) (hlen2 : os.length ≤ 9223372036854775807) :
    Calls Try.prog 6 #[.slice A l.length cap, .int .i64 hand, .int .i64 c, .slice B os.length cap2] w fun e w' => e = .returned (.bool true) ∧ Only [] w w' := by
  by_cases hno : (gapR l c).2 ≠ 0 ∨ hand < 0 ∨ (l.length : Int) ≤ hand
  · exact serves_no A B l cap os.length cap2 c hand w hl hlen hno
  · have h : (gapR l c).2 = 0 := by
      apply Classical.byContradiction
      intro h
      exact hno (.inl h)
    have hw : IsW l := by
      apply Classical.byContradiction
      intro hw
      rw [gapR_no hw] at h
      simp at h
    have hc : 0 ≤ c ∧ c < 3 := by
      apply Classical.byContradiction
      intro hc
      rw [gapR_out hw hc] at h
      simp at h
    obtain ⟨k, rfl⟩ := Int.eq_ofNat_of_zero_le hc.1
    have hh : 0 ≤ hand ∧ hand < l.length := by omega
    obtain ⟨m, rfl⟩ := Int.eq_ofNat_of_zero_le hh.1
    exact serves_yes A B l os cap cap2 k m w hl hos hlen2 hw (by omega) (by omega)
end Go.Proofs.Ytioglpaakmmidaa
