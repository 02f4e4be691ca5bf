/- joined, and marked on a row of the call's own. -/
import Derived.Test.YteebkgclopffbaaApp
namespace Go.Proofs.Yteebkgclopffbaa
open Go.RowKit

def J1 (w : World) (xs : List Int) (v vi : Value) (wr : World) : Prop :=
  ∃ k : Nat, vi = .int .i64 k ∧ k ≤ xs.length ∧ OwnL wr w.heap.size v (xs.take k) ∧ Below w.heap.size w wr
def J2 (w : World) (xs ys : List Int) (v vi : Value) (wr : World) : Prop :=
  ∃ k : Nat, vi = .int .i64 k ∧ k ≤ ys.length ∧ OwnL wr w.heap.size v (xs ++ ys.take k) ∧ Below w.heap.size w wr
/-- A new list in memory of its own. -/
def NewL (w : World) (xs : List Int) (e : Ending) (w' : World) : Prop :=
  ∃ A cap, e = .returned (.slice A xs.length cap) ∧ xs.length ≤ cap ∧ cap ≤ maxLen ∧ Rd w' A xs ∧ (∀ bl off, A = some ⟨bl, off, none⟩ → w.heap.size ≤ bl) ∧ Only [] w w'

theorem J1.step {w wr w' : World} {xs : List Int} {v v' : Value} {k : Nat} {x : Int} (hk : k < xs.length) (hx : x = xs.getD k 0) (hb : Below w.heap.size w wr) (hown : OwnL w' w.heap.size v' (xs.take k ++ [x]))
    (hv : OwnL wr w.heap.size v (xs.take k)) (o : Obj) (hg : (wr.alloc o).grownBy w' v.ownBlock) : J1 w xs v' (.int .i64 ((k : Int) + 1)) w' := by
  refine ⟨k + 1, by go_num, by omega, ?_, ((hb.alloc hb.size o).grown hg (by simp; have := hb.size; omega) (fun i hi => ?_))⟩
  · rw [List.take_add_one, getElem?_getD hk, ← hx]
    exact hown
  · obtain ⟨A, cap, e, _, _, _, hA⟩ := hv.form
    subst e
    cases A with
    | none => simp [Value.ownBlock] at hi
    | some a => exact (World.ownsRow.lt hv i hi).1
theorem J2.step {w wr w' : World} {xs ys : List Int} {v v' : Value} {k : Nat} {x : Int} (hk : k < ys.length) (hx : x = ys.getD k 0) (hb : Below w.heap.size w wr) (hown : OwnL w' w.heap.size v' ((xs ++ ys.take k) ++ [x]))
    (hv : OwnL wr w.heap.size v (xs ++ ys.take k)) (o : Obj) (hg : (wr.alloc o).grownBy w' v.ownBlock) : J2 w xs ys v' (.int .i64 ((k : Int) + 1)) w' := by
  refine ⟨k + 1, by go_num, by omega, ?_, ((hb.alloc hb.size o).grown hg (by simp; have := hb.size; omega) (fun i hi => (World.ownsRow.lt hv i hi).1))⟩
  rw [List.take_add_one, getElem?_getD hk, ← hx, ← List.append_assoc]
  exact hown

set_option maxHeartbeats 2000000 in
theorem joined_any {w : World} (A B : Option Addr) (xs ys : List Int) (ca cb : Nat) (ha : Rd w A xs) (hb : Rd w B ys) (hlen : xs.length + ys.length ≤ 17592186044416) :
    Calls Try.prog 42 #[.slice A xs.length ca, .slice B ys.length cb] w (NewL w (xs ++ ys)) := by
  have HA := Lib.hid ha
  have HB := Lib.hid hb
  clear ha hb
  go_enter Try.func42, Try.ntmps42
  go_wp2_with fail
  go_loopw [5, 6] (fun v vi wr => J1 w xs v vi wr) (fun _ vi _ => xs.length - (intOf vi).toNat)
  case atStart => exact ⟨0, rfl, Nat.zero_le _, by simpa using OwnL.nil w w.heap.size, Below.refl _ _⟩
  case round =>
    obtain ⟨k, rfl, hk, hown, hbel⟩ := hrel
    by_cases hlt : k < xs.length
    · have hR : Rd wr A xs := HA.out.only (Only.of_below (S := []) hbel) (by simp)
      obtain ⟨bl, off, rfl, hc⟩ := hR.form (by omega)
      have hcell := hc k hlt
      have hsz := hbel.size
      have hl1 : (xs.take k).length = k := take_len (by omega)
      have HX : Hid (xs.getD k 0 = xs.getD k 0) := rfl
      generalize hx : xs.getD k 0 = x at *
      have HX2 := Lib.hid hx.symm
      have HOWN := Lib.hid hown
      have HBEL := Lib.hid hbel
      clear hR hc hx hown hbel HX
      go_wp2_with ((at_builtin; refine wpList_app _ (by rfl) (.tmp 14) (.tmp 19) (by rfl) (by rfl) (HOWN.out.alloc _) (some ⟨wr.heap.size, 0, none⟩) [x] 1 1 (by rfl) rfl (Rd.of_bk (Bk.made wr 3 (ics [x]))) (by simp; omega) (by rw [hl1]; simp; omega) ?_; intro v' w1 hown1 hg1 _; have N1 := Lib.hid (J1.step hlt HX2.out HBEL.out hown1 HOWN.out _ hg1); clear hown1 hg1))
      go_roundw
      case rel => exact N1.out
      case measure => simp [intOf]; omega
    · obtain rfl : k = xs.length := by omega
      have HOWN : OwnL wr w.heap.size u5 xs := by simpa using hown
      have HOWN := Lib.hid HOWN
      have HBEL := Lib.hid hbel
      clear hown hbel
      go_wp2_with fail
      obtain ⟨wo, rfl⟩ : ∃ wo : World, wo = wr := ⟨_, rfl⟩
      go_loopw [5, 7] (fun v vi wr => J2 w xs ys v vi wr) (fun _ vi _ => ys.length - (intOf vi).toNat)
      case atStart => exact ⟨0, rfl, Nat.zero_le _, by simpa using HOWN.out, HBEL.out⟩
      case round =>
        clear HOWN HBEL
        obtain ⟨k, rfl, hk, hown, hbel⟩ := hrel
        by_cases hlt : k < ys.length
        · have hR : Rd wr B ys := HB.out.only (Only.of_below (S := []) hbel) (by simp)
          obtain ⟨bl, off, rfl, hc⟩ := hR.form (by omega)
          have hcell := hc k hlt
          have hsz := hbel.size
          have hl1 : (xs ++ ys.take k).length = xs.length + k := by rw [List.length_append, take_len (by omega)]
          generalize hx : ys.getD k 0 = x at *
          have HX2 := Lib.hid hx.symm
          have HOWN := Lib.hid hown
          have HBEL := Lib.hid hbel
          clear hR hc hx hown hbel
          go_wp2_with ((at_builtin; refine wpList_app _ (by rfl) (.tmp 27) (.tmp 32) (by rfl) (by rfl) (HOWN.out.alloc _) (some ⟨wr.heap.size, 0, none⟩) [x] 1 1 (by rfl) rfl (Rd.of_bk (Bk.made wr 3 (ics [x]))) (by simp; omega) (by rw [hl1]; simp; omega) ?_; intro v' w1 hown1 hg1 _; have N1 := Lib.hid (J2.step hlt HX2.out HBEL.out hown1 HOWN.out _ hg1); clear hown1 hg1))
          go_roundw
          case rel => exact N1.out
          case measure => simp [intOf]; omega
        · obtain rfl : k = ys.length := by omega
          have HOWN : OwnL wr w.heap.size u5 (xs ++ ys) := by simpa using hown
          obtain ⟨A', cap, rfl, h1, h2, h3, h4⟩ := HOWN.form
          have HF := Lib.hid (show NewL w (xs ++ ys) (.returned (.slice A' (xs ++ ys).length cap)) wr from ⟨A', cap, rfl, h1, h2, h3, fun bl off e => (h4 bl off e).1, Only.of_below hbel⟩)
          clear hown hbel HOWN h1 h2 h3 h4
          go_wp2
          go_ret
          exact HF.out

end Go.Proofs.Yteebkgclopffbaa
