/- From a row's arguments to what a walk is told. -/
import Derived.Test.YteebkgclopffbaaSame
import Derived.ProofKit
import Derived.OpenShut
import Derived.ShutString
import Derived.ChangeOld
namespace Go.Proofs.Yteebkgclopffbaa
open Go.ChangeShapes Go.WideShapes Go.ChangeAt Go.RowKit

theorem own_knob : ownKnob Try.prog.godebug = none := by kernel_rfl
theorem laid_out : laidOutB Try.prog = true := by kernel_rfl

theorem rd_of_ints {W : World} {x : Addr} {zs : List Int} {len : Nat} (hl : len ≤ zs.length) (hcell : ∀ i, i < zs.length → W.cell? (x.add i) = some (.int .i64 (zs.getD i 0))) :
    Rd W (some x) (zs.take len) ∧ (zs.take len).length = len := by
  refine ⟨?_, by simp; omega⟩
  by_cases h0 : zs.length = 0
  · left
    rw [List.eq_nil_of_length_eq_zero h0]
    simp
  · obtain ⟨b, off, rfl, hc⟩ := ints_at hcell (by omega)
    have hb : b < W.heap.size := by
      have h1 := hc 0 (by omega)
      apply Nat.lt_of_not_le
      intro hle
      simp [World.cell?, Array.getElem?_eq_none hle] at h1
    refine .inr ⟨b, off, rfl, hb, fun k v hk => ?_⟩
    rw [List.getElem?_take] at hk
    by_cases hkl : k < len
    · rw [if_pos hkl] at hk
      rw [hc k (by omega)]
      simp [List.getD, hk]
    · rw [if_neg hkl] at hk
      cases hk

/-- An argument that is a slice of ints: its value, what it reads as. -/
theorem open_rd {H : Type} {enc : TypeId × Value → H} {W : World} {base : Nat} {a : Option Addr} {len cap : Nat} {d : DataW H} {p : List MemPlace} {sp : Nat → Bool} {hd : Bool}
    (h : DataW.Trod enc Try.prog W base sp hd 27 (.slice a len cap) d p) : ∃ l, Rd W a l ∧ l.length = len ∧ len ≤ cap ∧ cap ≤ 9223372036854775807 := by
  obtain ⟨fuel, hf⟩ := h
  rcases open_ints Try.underlying27 Try.underlying3 (by kernel_rfl) hf with ⟨hcs, _⟩ | ⟨x, l, c, zs, hcs, _, hl, hm, hz, _, hcell, hwz⟩
  · simp [Value.cells] at hcs
    obtain ⟨rfl, rfl, rfl⟩ := hcs
    exact ⟨[], Rd.nil _ _, rfl, by omega, by omega⟩
  · simp [Value.cells] at hcs
    obtain ⟨rfl, rfl, rfl⟩ := hcs
    unfold maxLen at hm
    have hlz : len ≤ zs.length := by
      rw [hz]
      split <;> omega
    obtain ⟨h1, h2⟩ := rd_of_ints hlz hcell
    exact ⟨_, h1, h2, by omega, by omega⟩

end Go.Proofs.Yteebkgclopffbaa
