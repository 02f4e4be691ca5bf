/- The document's SamePids. -/
import Derived.Test.YtlidnlcmnkagaaaJ3
namespace Go.Proofs.Ytlidnlcmnkagaaa
open Go.RowKit
set_option maxRecDepth 20000

theorem rsame_any_step {xs ys : List Pd} {i : Nat} {x y : Pd} (hx : xs[i]? = some x) (hy : ys[i]? = some y) (h : ∀ j, j < i → xs[j]? = ys[j]?) (he : eqP x y = true) : ∀ j, j < i + 1 → xs[j]? = ys[j]? := fun j hj => by
  by_cases e : j = i
  · subst e
    rw [hx, hy, eqP_iff.1 he]
  · exact h j (by omega)
set_option maxHeartbeats 1000000 in
theorem rsame_any (A B : Option Addr) (xs ys : List Pd) (ca cb : Nat) (w : World) (ha : RdS KP w A xs) (hb : RdS KP w B ys) (h1 : xs.length ≤ 17592186044416) (h2 : ys.length ≤ 17592186044416) :
    Calls Try.prog 14 #[.slice A xs.length ca, .slice B ys.length cb] w fun e w' => e = .returned (.bool (decide (xs = ys))) ∧ ∃ k, w' = w.drewN k := by
  by_cases hlen : xs.length = ys.length
  · have e1 : (((xs.length : Int)) != (ys.length : Int)) = false := by simp; omega
    have HA := Lib.hid ha
    have HB := Lib.hid hb
    have HL := Lib.hid hlen
    clear ha hb hlen
    go_enter Try.func14, Try.ntmps14
    go_wp2_with fail
    go_loopw [5] (fun v wr => ∃ k q : Nat, v = .int .i64 k ∧ k ≤ xs.length ∧ (∀ j, j < k → xs[j]? = ys[j]?) ∧ wr = w.drewN q) (fun v _ => xs.length - (intOf v).toNat)
    case atStart => exact ⟨0, 0, rfl, Nat.zero_le _, fun j hj => absurd hj (Nat.not_lt_zero j), rfl⟩
    case round =>
      obtain ⟨k, q, rfl, hk, hall, rfl⟩ := hrel
      by_cases hlt : k < xs.length
      · have hk2 : k < ys.length := by rw [← HL.out]; exact hlt
        obtain ⟨b1, o1, rfl, -, f1⟩ := RdP.at2 HA.out (by omega)
        obtain ⟨b2, o2, rfl, -, f2⟩ := RdP.at2 HB.out (by omega)
        obtain ⟨x, hx⟩ := some_at hlt
        obtain ⟨y, hy⟩ := some_at hk2
        obtain ⟨x0, x1⟩ := f1 k x hx
        obtain ⟨y0, y1⟩ := f2 k y hy
        have HS := Lib.hid (fun he => rsame_any_step hx hy hall he)
        have HX := Lib.hid hx
        have HY := Lib.hid hy
        clear f1 f2 hall hx hy
        cases hE : eqP x y with
        | true =>
          have HN := Lib.hid (HS.out hE)
          clear HS
          simp only [eqP] at hE
          go_wp2_with fail
          go_quiet (fail)
          go_wp2
          go_roundw
          case rel => exact ⟨k + 1, _, by go_num, by omega, HN.out, rfl⟩
          case measure => simp [intOf]; omega
        | false =>
          have HN := Lib.hid (show ¬ xs = ys from fun e => by
            have hy' := HY.out
            rw [← e, HX.out] at hy'
            injection hy' with hy'
            subst hy'
            rw [eqP_iff.2 rfl] at hE
            cases hE)
          simp only [eqP] at hE
          go_wp2_with fail
          go_quiet (fail)
          go_wp2
          go_ret
          exact ⟨retB (decide_eq_false HN.out).symm, q + nq, by simp [World.drewN, Nat.add_assoc]⟩
      · have hE : xs = ys := List.ext_getElem? fun j => by
          by_cases hj : j < k
          · exact hall j hj
          · rw [List.getElem?_eq_none (by omega), List.getElem?_eq_none (by have := HL.out; omega)]
        have HE := Lib.hid hE
        clear hE
        go_wp2_with fail
        go_ret
        exact ⟨retB (decide_eq_true HE.out).symm, q, rfl⟩
  · have e1 : (((xs.length : Int)) != (ys.length : Int)) = true := by simp; omega
    have hne : ¬ xs = ys := fun h => hlen (by rw [h])
    go_enter Try.func14, Try.ntmps14
    go_wp2_with fail
    go_ret
    exact ⟨retB (decide_eq_false hne).symm, 0, rfl⟩
end Go.Proofs.Ytlidnlcmnkagaaa
