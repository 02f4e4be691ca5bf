/- The law RingNobody, walked. -/
import Derived.Test.YteebkgclopffbaaNobody
namespace Go.Proofs.Yteebkgclopffbaa
open Go.RowKit

/-- The two pointers: none; a zero struct's. -/
def TwoP (w wr : World) : Prop :=
  Only [] w wr ∧ Bk wr (w.heap.size + 1) 23 #[.pointer none, .pointer (some ⟨w.heap.size, 0, none⟩)] ∧ wr.cell? ⟨w.heap.size, 0, none⟩ = some (.pointer none)
theorem TwoP.alloc {w wr : World} (h : TwoP w wr) (o : Obj) : TwoP w (wr.alloc o) := by
  obtain ⟨h1, h2, h3⟩ := h
  refine ⟨h1.alloc _, h2.alloc _, (World.cell?_alloc_lt _ _ _ ?_).trans h3⟩
  have := h2.lt
  show w.heap.size < _
  omega
theorem TwoP.get {w wr : World} (h : TwoP w wr) {k : Nat} (hk : k < 2) : ∃ p, wr.cell? ⟨w.heap.size + 1, k, none⟩ = some (.pointer p) ∧ NotR wr p := by
  obtain ⟨h1, h2, h3⟩ := h
  match k, hk with
  | 0, _ => exact ⟨none, h2.cell0 rfl, .inl rfl⟩
  | 1, _ => exact ⟨_, h2.cell0 rfl, .inr ⟨_, rfl, h3⟩⟩
def NobRel (w : World) (v : Value) (wr : World) : Prop := ∃ k : Nat, v = .int .i64 k ∧ k ≤ 2 ∧ TwoP w wr

set_option maxRecDepth 100000 in
set_option maxHeartbeats 4000000 in
theorem nobody_any (n : Int) (w : World) : Calls Try.prog 7 #[.int .i64 n] w fun e w' => e = .returned (.bool true) ∧ Only [] w w' := by
  go_enter Try.func7, Try.ntmps7
  go_wp2_with fail
  go_loopw [4] (fun v wr => NobRel w v wr) (fun v _ => 2 - (intOf v).toNat)
  case atStart =>
    refine ⟨0, rfl, by omega, ((Only.refl _ _).alloc _).alloc _, ?_, ?_⟩
    · have := Bk.made (w.alloc (Obj.cells #[Value.pointer none, Value.int IntKind.i64 0, Value.slice none 0 0, Value.int IntKind.i64 0, Value.int IntKind.i64 0] 57)) 23 #[.pointer none, .pointer (some ⟨w.heap.size, 0, none⟩)]
      simpa using this
    · exact ((Bk.made w 57 _).alloc _).cell0 rfl
  case round =>
    obtain ⟨k, rfl, hk, h⟩ := hrel
    by_cases hk2 : k < 2
    · obtain ⟨p, hc, hp⟩ := h.get hk2
      have hp2 := hp.alloc (.cells #[.int .i64 n] 3)
      have P1 := Lib.hid (pop_not hp)
      have P2 := Lib.hid (at_not hp n)
      have P3 := Lib.hid (take_not hp n)
      have P4 := Lib.hid (cut_not hp n)
      have P5 := Lib.hid (push_not hp n)
      have P6 := Lib.hid (join_not hp2 (.slice (some ⟨wr.heap.size, 0, none⟩) 1 1))
      have P7 := Lib.hid (len_not hp2)
      have P8 := Lib.hid (room_not hp2)
      have P9 := Lib.hid (items_not hp2)
      have P10 := Lib.hid (copy_not hp2)
      have HN := Lib.hid (h.alloc (.cells #[.int .i64 n] 3))
      clear hp hp2 h
      go_wp2_with (first
        | (go_at_call 19; (with_reducible refine P1.out.mono ?_); rintro e w' ⟨rfl, rfl⟩)
        | (go_at_call 25; (with_reducible refine P2.out.mono ?_); rintro e w' ⟨rfl, rfl⟩)
        | (go_at_call 26; (with_reducible refine P3.out.mono ?_); rintro e w' ⟨rfl, rfl⟩)
        | (go_at_call 23; (with_reducible refine P4.out.mono ?_); rintro e w' ⟨rfl, rfl⟩)
        | (go_at_call 18; (with_reducible refine P5.out.mono ?_); rintro e w' ⟨rfl, rfl⟩)
        | (go_at_call 22; (with_reducible refine P6.out.mono ?_); rintro e w' ⟨rfl, rfl⟩)
        | (go_at_call 20; (with_reducible refine P7.out.mono ?_); rintro e w' ⟨rfl, rfl⟩)
        | (go_at_call 21; (with_reducible refine P8.out.mono ?_); rintro e w' ⟨rfl, rfl⟩)
        | (go_at_call 24; (with_reducible refine P9.out.mono ?_); rintro e w' ⟨rfl, rfl⟩)
        | (go_at_call 13; (with_reducible refine P10.out.mono ?_); rintro e w' ⟨rfl, rfl⟩))
      go_roundw
      case rel => exact ⟨k + 1, by go_num, by omega, HN.out⟩
      case measure => simp [intOf]; omega
    · obtain rfl : k = 2 := by omega
      have AW := Lib.hid (awake_any wr)
      have HO := Lib.hid h.1
      clear h
      go_wp2_with ((go_at_call 10; (with_reducible refine AW.out.mono ?_); rintro e w2 ⟨rfl, o2⟩; have O2 := Lib.hid o2; clear o2))
      go_ret
      exact ⟨rfl, HO.out.trans O2.out (by simp)⟩

end Go.Proofs.Yteebkgclopffbaa
