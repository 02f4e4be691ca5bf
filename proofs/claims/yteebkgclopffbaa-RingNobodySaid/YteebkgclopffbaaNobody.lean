/- A ring that nobody made: every method at nil, and at the zero struct. -/
import Derived.Test.YteebkgclopffbaaOwn
namespace Go.Proofs.Yteebkgclopffbaa
open Go.RowKit

/-- The pointer is none, or leads to a zero struct. -/
def NotR (w : World) (p : Option Addr) : Prop := p = none ∨ ∃ b, p = some ⟨b, 0, none⟩ ∧ w.cell? ⟨b, 0, none⟩ = some (.pointer none)
theorem NotR.alloc {w : World} {p : Option Addr} (h : NotR w p) (o : Obj) : NotR (w.alloc o) p := by
  rcases h with h | ⟨b, h1, h2⟩
  · exact .inl h
  · refine .inr ⟨b, h1, ?_⟩
    rw [World.cell?_alloc_lt _ _ _ (Nat.lt_of_not_le fun hle => ?_)]
    · exact h2
    · simp [World.cell?, Array.getElem?_eq_none hle] at h2

theorem given_no {w : World} {p : Option Addr} (h : NotR w p) : Calls Try.prog 35 #[.pointer p] w fun e w' => e = .returned (.bool false) ∧ w = w' := by
  rcases h with rfl | ⟨b, rfl, h⟩
  · exact given_nil w
  · exact given_zero b w h

theorem push_not {w : World} {p : Option Addr} (h : NotR w p) (x : Int) : Calls Try.prog 18 #[.pointer p, .int .i64 x] w fun e w' => e = .returned (.int .i64 1) ∧ w = w' := by
  have Y := Lib.hid (given_no h)
  clear h
  go_enter Try.func18, Try.ntmps18
  go_wp2_with ((go_at_call 35; (with_reducible refine Y.out.mono ?_); rintro e w' ⟨rfl, rfl⟩))
  go_ret
  exact ⟨rfl, rfl⟩
theorem at_not {w : World} {p : Option Addr} (h : NotR w p) (x : Int) : Calls Try.prog 25 #[.pointer p, .int .i64 x] w fun e w' => e = .returned (.tuple #[.int .i64 0, .int .i64 1]) ∧ w = w' := by
  have Y := Lib.hid (given_no h)
  clear h
  go_enter Try.func25, Try.ntmps25
  go_wp2_with ((go_at_call 35; (with_reducible refine Y.out.mono ?_); rintro e w' ⟨rfl, rfl⟩))
  go_ret2
  exact ⟨rfl, rfl⟩
theorem take_not {w : World} {p : Option Addr} (h : NotR w p) (x : Int) : Calls Try.prog 26 #[.pointer p, .int .i64 x] w fun e w' => e = .returned (.tuple #[.int .i64 0, .int .i64 1]) ∧ w = w' := by
  have Y := Lib.hid (at_not h x)
  clear h
  go_enter Try.func26, Try.ntmps26
  go_wp2_with ((go_at_call 25; (with_reducible refine Y.out.mono ?_); rintro e w' ⟨rfl, rfl⟩))
  go_ret2
  exact ⟨rfl, rfl⟩
theorem pop_not {w : World} {p : Option Addr} (h : NotR w p) : Calls Try.prog 19 #[.pointer p] w fun e w' => e = .returned (.tuple #[.int .i64 0, .int .i64 1]) ∧ w = w' := by
  have Y := Lib.hid (take_not h 0)
  clear h
  go_enter Try.func19, Try.ntmps19
  go_wp2_with ((go_at_call 26; (with_reducible refine Y.out.mono ?_); rintro e w' ⟨rfl, rfl⟩))
  go_ret2
  exact ⟨rfl, rfl⟩
theorem cut_not {w : World} {p : Option Addr} (h : NotR w p) (x : Int) : Calls Try.prog 23 #[.pointer p, .int .i64 x] w fun e w' => e = .returned (.tuple #[.slice none 0 0, .int .i64 1]) ∧ w = w' := by
  have Y := Lib.hid (given_no h)
  clear h
  go_enter Try.func23, Try.ntmps23
  go_wp2_with ((go_at_call 35; (with_reducible refine Y.out.mono ?_); rintro e w' ⟨rfl, rfl⟩))
  go_ret2
  exact ⟨rfl, rfl⟩
theorem join_not {w : World} {p : Option Addr} (h : NotR w p) (v : Value) : Calls Try.prog 22 #[.pointer p, v] w fun e w' => e = .returned (.int .i64 1) ∧ w = w' := by
  have Y := Lib.hid (given_no h)
  clear h
  go_enter Try.func22, Try.ntmps22
  go_wp2_with ((go_at_call 35; (with_reducible refine Y.out.mono ?_); rintro e w' ⟨rfl, rfl⟩))
  go_ret
  exact ⟨rfl, rfl⟩
theorem len_not {w : World} {p : Option Addr} (h : NotR w p) : Calls Try.prog 20 #[.pointer p] w fun e w' => e = .returned (.int .i64 0) ∧ w = w' := by
  have Y := Lib.hid (given_no h)
  clear h
  go_enter Try.func20, Try.ntmps20
  go_wp2_with ((go_at_call 35; (with_reducible refine Y.out.mono ?_); rintro e w' ⟨rfl, rfl⟩))
  go_ret
  exact ⟨rfl, rfl⟩
theorem room_not {w : World} {p : Option Addr} (h : NotR w p) : Calls Try.prog 21 #[.pointer p] w fun e w' => e = .returned (.int .i64 0) ∧ w = w' := by
  have Y := Lib.hid (given_no h)
  clear h
  go_enter Try.func21, Try.ntmps21
  go_wp2_with ((go_at_call 35; (with_reducible refine Y.out.mono ?_); rintro e w' ⟨rfl, rfl⟩))
  go_ret
  exact ⟨rfl, rfl⟩
theorem items_not {w : World} {p : Option Addr} (h : NotR w p) : Calls Try.prog 24 #[.pointer p] w fun e w' => e = .returned (.slice none 0 0) ∧ w = w' := by
  have Y := Lib.hid (given_no h)
  clear h
  go_enter Try.func24, Try.ntmps24
  go_wp2_with ((go_at_call 35; (with_reducible refine Y.out.mono ?_); rintro e w' ⟨rfl, rfl⟩))
  go_ret
  exact ⟨rfl, rfl⟩
theorem copy_not {w : World} {p : Option Addr} (h : NotR w p) : Calls Try.prog 13 #[.pointer p] w fun e w' => e = .returned (.pointer none) ∧ w = w' := by
  have Y := Lib.hid (given_no h)
  clear h
  go_enter Try.func13, Try.ntmps13
  go_wp2_with ((go_at_call 35; (with_reducible refine Y.out.mono ?_); rintro e w' ⟨rfl, rfl⟩))
  go_ret
  exact ⟨rfl, rfl⟩

end Go.Proofs.Yteebkgclopffbaa
