/- Marked of a slice at the front of a block of ints; rows of ints in both readings. -/
import Derived.Test.YtlidnlcmnkagaaaMk
import Derived.Test.YtlidnlcmnkagaaaJ3
namespace Go.Proofs.Ytlidnlcmnkagaaa
open Go.RowKit
set_option maxRecDepth 20000

theorem RdS.ints {w : World} {A : Option Addr} {xs : List Int} (h : RdS KI w A xs) : Rd w A xs := by
  rcases h with rfl | ⟨bl, off, e, hb, hc⟩
  · exact .inl rfl
  · refine .inr ⟨bl, off, e, hb, fun k x hx => ?_⟩
    have := hc k x hx 0 _ rfl
    rwa [Nat.add_zero, show KI.k = 1 from rfl, Nat.mul_one] at this
theorem Rd.rows {w : World} {A : Option Addr} {xs : List Int} (h : Rd w A xs) : RdS KI w A xs := by
  rcases h with rfl | ⟨bl, off, e, hb, hc⟩
  · exact .inl rfl
  · refine .inr ⟨bl, off, e, hb, fun k x hx j v hv => ?_⟩
    cases j with
    | zero =>
      injection hv with hv
      subst hv
      have := hc k x hx
      rwa [Nat.add_zero, show KI.k = 1 from rfl, Nat.mul_one]
    | succ j => cases hv
set_option maxHeartbeats 1000000 in
theorem markF_any {w : World} {g : Nat} {ys : List Int} (h : Bk w g 3 (ics ys)) {n : Nat} (hn : n ≤ ys.length) (cap : Nat) (hlen : n ≤ 17592186044416) (m : Int) (hm : 0 ≤ m ∧ m ≤ 1000) :
    Calls Try.prog 15 #[.slice (some ⟨g, 0, none⟩) n cap, .int .i64 m] w fun e w' => e = .returned (.tuple #[]) ∧ Only [g] w w' := by
  have HB := Lib.hid h
  have HN := Lib.hid hn
  clear h hn
  go_enter Try.func15, Try.ntmps15
  go_wp2_with fail
  go_loopw [4] (fun v wr => ∃ (k : Nat) (zs : List Int), v = .int .i64 k ∧ k ≤ n ∧ n ≤ zs.length ∧ Bk wr g 3 (ics zs) ∧ Only [g] w wr) (fun v _ => n - (intOf v).toNat)
  case atStart => exact ⟨0, ys, rfl, Nat.zero_le _, HN.out, HB.out, Only.refl _ _⟩
  case round =>
    clear HB
    obtain ⟨k, zs, rfl, hk, hz, hb, ho⟩ := hrel
    by_cases hlt : k < n
    · have hcell := hb.cell0 (ics_at (getElem?_getD (show k < zs.length by omega)))
      have hfr := hb.free k
      have N1 := Lib.hid (show Bk (wr.setCell ⟨g, k, none⟩ (.int .i64 (-1000000 - m))) g 3 (ics (zs.set k (-1000000 - m))) from by
        have h := hb.set k (.int .i64 (-1000000 - m))
        rwa [ics_set] at h)
      have N2 := Lib.hid (ho.set (p := ⟨g, k, none⟩) (.inl (by simp)) (.int .i64 (-1000000 - m)))
      have hzl : n ≤ (zs.set k (-1000000 - m)).length := by rw [List.length_set]; exact hz
      have HZ := Lib.hid hzl
      generalize zs.getD k 0 = x at *
      clear hb ho hz hzl
      go_wp2
      go_roundw
      case rel => exact ⟨k + 1, _, by go_num, by omega, HZ.out, N1.out, N2.out⟩
      case measure => simp [intOf]; omega
    · obtain rfl : k = n := by omega
      have HO := Lib.hid ho
      clear hb ho
      go_wp2
      go_end0
      exact ⟨rfl, HO.out⟩
end Go.Proofs.Ytlidnlcmnkagaaa
