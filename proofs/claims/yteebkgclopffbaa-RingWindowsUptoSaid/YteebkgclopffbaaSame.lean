/- Same: are lists the same? -/
import Derived.Test.YteebkgclopffbaaRing4
namespace Go.Proofs.Yteebkgclopffbaa
open Go.RowKit

theorem getElem?_getD {l : List Int} {k : Nat} (h : k < l.length) : l[k]? = some (l.getD k 0) := by simp [List.getD, h]

def SameRel (w : World) (xs ys : List Int) (v : Value) (wr : World) : Prop := ∃ k q : Nat, v = .int .i64 k ∧ k ≤ xs.length ∧ (∀ j, j < k → xs.getD j 0 = ys.getD j 0) ∧ wr = w.drewN q
theorem SameRel.step {w : World} {xs ys : List Int} {k q : Nat} (hk : k < xs.length) (h : ∀ j, j < k → xs.getD j 0 = ys.getD j 0) (e : xs.getD k 0 = ys.getD k 0) : SameRel w xs ys (.int .i64 ((k : Int) + 1)) (w.drewN q) :=
  ⟨k + 1, q, by go_num, by omega, fun j hj => by
    by_cases hjk : j = k
    · subst hjk; exact e
    · exact h j (by omega), rfl⟩
theorem same_of {xs ys : List Int} (hl : xs.length = ys.length) (h : ∀ j, j < xs.length → xs.getD j 0 = ys.getD j 0) : xs = ys := by
  apply List.ext_getElem?
  intro j
  by_cases hj : j < xs.length
  · rw [getElem?_getD hj, getElem?_getD (by omega), h j hj]
  · rw [List.getElem?_eq_none (by omega), List.getElem?_eq_none (by omega)]
theorem Rd.form {w : World} {A : Option Addr} {xs : List Int} (h : Rd w A xs) (h0 : 0 < xs.length) : ∃ bl off, A = some ⟨bl, off, none⟩ ∧ ∀ k, k < xs.length → w.cell? ⟨bl, off + k, none⟩ = some (.int .i64 (xs.getD k 0)) := by
  rcases h with rfl | ⟨bl, off, e, _, hc⟩
  · simp at h0
  · exact ⟨bl, off, e, fun k hk => hc k _ (getElem?_getD hk)⟩

set_option maxHeartbeats 1000000 in
theorem same_any {w : World} (A B : Option Addr) (xs ys : List Int) (ca cb : Nat) (ha : Rd w A xs) (hb : Rd w B ys) (h1 : xs.length ≤ 9223372036854775807) (h2 : ys.length ≤ 9223372036854775807) :
    Calls Try.prog 16 #[.slice A xs.length ca, .slice B ys.length cb] w fun e w' => e = .returned (.bool (decide (xs = ys))) ∧ ∃ k, w' = w.drewN k := by
  by_cases hlen : xs.length = ys.length
  · have e1 : (((xs.length : Int)) != (ys.length : Int)) = false := by simp; omega
    have HA := Lib.hid ha
    have HB := Lib.hid hb
    have HL := Lib.hid hlen
    clear ha hb hlen
    go_enter Try.func16, Try.ntmps16
    go_wp2_with fail
    go_loopw [5] (fun v wr => SameRel w xs ys v wr) (fun v _ => xs.length - (intOf v).toNat)
    case atStart => exact ⟨0, 0, rfl, Nat.zero_le _, fun j hj => absurd hj (Nat.not_lt_zero j), rfl⟩
    case round =>
      obtain ⟨k, q, rfl, hk, hall, rfl⟩ := hrel
      by_cases hlt : k < xs.length
      · have hk2 : k < ys.length := by rw [← HL.out]; exact hlt
        obtain ⟨b1, o1, rfl, f1⟩ := HA.out.form (by omega)
        obtain ⟨b2, o2, rfl, f2⟩ := HB.out.form (by omega)
        have g1 := f1 k hlt
        have g2 := f2 k hk2
        have HX := Lib.hid hall
        clear f1 f2 hall
        by_cases hv : xs.getD k 0 = ys.getD k 0
        · have hb1 : (xs.getD k 0 != ys.getD k 0) = false := by rw [hv, bne_self_eq_false]
          have HN := Lib.hid (fun q' => SameRel.step (w := w) (q := q') hlt HX.out hv)
          clear hv HX
          generalize xs.getD k 0 = x at *
          generalize ys.getD k 0 = y at *
          go_wp2_with fail
          go_quiet (fail)
          go_wp2
          go_roundw
          case rel => exact HN.out _
          case measure => simp [intOf]; omega
        · have hb1 : (xs.getD k 0 != ys.getD k 0) = true := by simpa using hv
          have hne : ¬ xs = ys := fun e => hv (by rw [e])
          have HE := Lib.hid (decide_eq_false hne)
          clear hv hne HX
          generalize xs.getD k 0 = x at *
          generalize ys.getD k 0 = y at *
          go_wp2_with fail
          go_quiet (fail)
          go_wp2
          go_ret
          exact ⟨by rw [HE.out]; rfl, q + nq, by simp⟩
      · have he : xs = ys := same_of HL.out (fun j hj => hall j (by omega))
        have HE := Lib.hid (decide_eq_true he)
        clear he hall
        go_wp2
        go_ret
        exact ⟨by rw [HE.out]; rfl, _, rfl⟩
  · have hne : ¬ xs = ys := fun e => hlen (by rw [e])
    have e1 : (((xs.length : Int)) != (ys.length : Int)) = true := by simp; omega
    rw [decide_eq_false hne]
    clear ha hb hne
    go_enter Try.func16, Try.ntmps16
    go_wp2
    go_ret
    exact ⟨rfl, 0, rfl⟩

end Go.Proofs.Yteebkgclopffbaa
