/- Len, Room, Items, At, Take, Pop of a ring that lies in memory. -/
import Derived.Test.YteebkgclopffbaaRing
namespace Go.Proofs.Yteebkgclopffbaa
open Go.RowKit

theorem len_yes {w : World} {b : Nat} {A : Option Nat} {room : Nat} {xs : List Int} (hr : Ring w b A room xs) :
    Calls Try.prog 20 #[.pointer (some ⟨b, 0, none⟩)] w fun e w' => e = .returned (.int .i64 (xs.length : Nat)) ∧ w = w' := by
  obtain ⟨L, h, c, r, rfl⟩ := hr
  rw [take_len r.cnt]
  have c4 := r.c4
  have Y := Lib.hid (given_yes b w r.c0)
  clear r
  go_enter Try.func20, Try.ntmps20
  go_wp2_with ((go_at_call 35; (with_reducible refine Y.out.mono ?_); rintro e w' ⟨rfl, rfl⟩))
  go_ret
  exact ⟨rfl, rfl⟩

theorem room_yes {w : World} {b : Nat} {A : Option Nat} {room : Nat} {xs : List Int} (hr : Ring w b A room xs) :
    Calls Try.prog 21 #[.pointer (some ⟨b, 0, none⟩)] w fun e w' => e = .returned (.int .i64 ((room : Int) - xs.length)) ∧ ∃ k, w' = w.drewN k := by
  obtain ⟨L, h, c, r, rfl⟩ := hr
  rw [take_len r.cnt]
  have c4 := r.c4
  have c1 := r.c1
  have h1 := r.top
  have h2 := r.fit
  have h3 := r.cnt
  have e1 : IntKind.i64.wrap ((room : Int) - c) = (room : Int) - c := IntWalk.i64_in _ (by omega)
  have Y := Lib.hid (given_yes b w r.c0)
  clear r
  go_enter Try.func21, Try.ntmps21
  go_wp2_with ((go_at_call 35; (with_reducible refine Y.out.mono ?_); rintro e w' ⟨rfl, rfl⟩))
  go_quiet (fail)
  go_wp2
  go_ret
  exact ⟨rfl, _, rfl⟩

theorem items_yes {w : World} {b : Nat} {A : Option Nat} {room : Nat} {xs : List Int} (hr : Ring w b A room xs) :
    Calls Try.prog 24 #[.pointer (some ⟨b, 0, none⟩)] w fun e w' => e = .returned (.slice (some ⟨w.heap.size, 0, none⟩) xs.length xs.length) ∧ Bk w' w.heap.size 3 (ics xs) ∧ Only [] w w' := by
  obtain ⟨L, h, c, r, rfl⟩ := hr
  rw [take_len r.cnt]
  have Y := Lib.hid (given_yes b w r.c0)
  have F := Lib.hid (from_at r 0 (Nat.zero_le _))
  rw [Int.cast_ofNat_Int] at F
  clear r
  go_enter Try.func24, Try.ntmps24
  go_wp2_with (first
    | (go_at_call 35; (with_reducible refine Y.out.mono ?_); rintro e w' ⟨rfl, rfl⟩)
    | (go_at_call 36; (with_reducible refine F.out.mono ?_); rintro e w1 ⟨rfl, hb, ho⟩; have HB := Lib.hid hb; have HO := Lib.hid ho; clear hb ho))
  go_ret
  exact ⟨rfl, by simpa using HB.out, HO.out⟩

set_option maxHeartbeats 1000000 in
theorem at_yes {w : World} {b : Nat} {A : Option Nat} {room : Nat} {xs : List Int} (hr : Ring w b A room xs) (i : Nat) (hi : i < xs.length) :
    Calls Try.prog 25 #[.pointer (some ⟨b, 0, none⟩), .int .i64 i] w fun e w' => e = .returned (.tuple #[.int .i64 (xs.getD i 0), .int .i64 0]) ∧ ∃ k, w' = w.drewN k := by
  obtain ⟨L, h, c, r, rfl⟩ := hr
  rw [take_len r.cnt] at hi
  have hcl := r.cnt
  have hfit := r.fit
  have htop := r.top
  have ev : (L.take c).getD i 0 = L.getD i 0 := by simp [List.getD, hi]
  rw [ev]
  obtain ⟨g, rfl⟩ := r.some_ (by omega)
  have c2 : w.cell? ⟨b, 2, none⟩ = some (.slice (some ⟨g, 0, none⟩) L.length L.length) := r.c2
  have c4 := r.c4
  have cg := r.slot (k := i) (by omega)
  have hm1 : (h + i) % L.length < L.length := Nat.mod_lt _ (by omega)
  have Y := Lib.hid (given_yes b w r.c0)
  have S0 := Lib.hid (fun q => slot_at (r.drewN q) i (by omega) (by omega))
  have hi0 : ¬ (i : Int) < 0 := by omega
  have hid : decide ((i : Int) < 0) = false := decide_eq_false hi0
  clear r ev
  generalize (h + i) % L.length = m1 at *
  generalize L.length = n at *
  generalize L.getD i 0 = x0 at *
  go_enter Try.func25, Try.ntmps25
  go_wp2_with ((go_at_call 35; (with_reducible refine Y.out.mono ?_); rintro e w' ⟨rfl, rfl⟩))
  go_quiet ((go_at_call 40; with_reducible exact Calls.quiet_of (S0.out _)))
  go_wp2
  go_ret2
  exact ⟨rfl, _, rfl⟩

set_option maxHeartbeats 1000000 in
theorem at_no {w : World} {b : Nat} {A : Option Nat} {room : Nat} {xs : List Int} (hr : Ring w b A room xs) (i : Int) (hi : i < 0 ∨ (xs.length : Int) ≤ i) :
    Calls Try.prog 25 #[.pointer (some ⟨b, 0, none⟩), .int .i64 i] w fun e w' => e = .returned (.tuple #[.int .i64 0, .int .i64 3]) ∧ w = w' := by
  obtain ⟨L, h, c, r, rfl⟩ := hr
  rw [take_len r.cnt] at hi
  have c4 := r.c4
  have Y := Lib.hid (given_yes b w r.c0)
  clear r
  rcases hi with hi | hi
  · have hid : decide (i < 0) = true := decide_eq_true hi
    go_enter Try.func25, Try.ntmps25
    go_wp2_with ((go_at_call 35; (with_reducible refine Y.out.mono ?_); rintro e w' ⟨rfl, rfl⟩))
    go_ret2
    exact ⟨rfl, rfl⟩
  · have hi0 : ¬ i < 0 := by omega
    have hid : decide (i < 0) = false := decide_eq_false hi0
    go_enter Try.func25, Try.ntmps25
    go_wp2_with ((go_at_call 35; (with_reducible refine Y.out.mono ?_); rintro e w' ⟨rfl, rfl⟩))
    go_ret2
    exact ⟨rfl, rfl⟩

set_option maxHeartbeats 1000000 in
theorem take_yes {w : World} {b : Nat} {A : Option Nat} {room : Nat} {xs : List Int} (hr : Ring w b A room xs) (i : Nat) (hi : i < xs.length) :
    Calls Try.prog 26 #[.pointer (some ⟨b, 0, none⟩), .int .i64 i] w fun e w' => e = .returned (.tuple #[.int .i64 (xs.getD i 0), .int .i64 0]) ∧ Ring w' b A room (xs.eraseIdx i) ∧ Only (b :: A.toList) w w' := by
  have AT := Lib.hid (at_yes hr i hi)
  obtain ⟨L, h, c, r, rfl⟩ := hr
  have hcl := r.cnt
  rw [take_len hcl] at hi
  have hfit := r.fit
  have htop := r.top
  obtain ⟨g, rfl⟩ := r.some_ (by omega)
  have c4 := r.c4
  have T := Lib.hid (fun q => closeTail_at (r.drewN q) i hi)
  have D := Lib.hid (fun q => closeHead_at (r.drewN q) i hi)
  clear r
  generalize (L.take c).getD i 0 = x0 at *
  by_cases hside : (i : Int) < (c : Int) - 1 - (i : Int)
  · go_enter Try.func26, Try.ntmps26
    go_wp2_with (first
      | (go_at_call 25; (with_reducible refine AT.out.mono ?_); rintro e w' ⟨rfl, q, rfl⟩)
      | (go_at_call 41; (with_reducible refine (D.out _).mono ?_); rintro e w1 ⟨rfl, M, h', r1, e1, o1⟩; have R1 := Lib.hid r1; have E1 := Lib.hid e1; have O1 := Lib.hid o1; clear r1 e1 o1))
    go_ret2
    exact ⟨rfl, ⟨M, h', c - 1, R1.out, E1.out.symm⟩, O1.out.undrew⟩
  · go_enter Try.func26, Try.ntmps26
    go_wp2_with (first
      | (go_at_call 25; (with_reducible refine AT.out.mono ?_); rintro e w' ⟨rfl, q, rfl⟩)
      | (go_at_call 39; (with_reducible refine (T.out _).mono ?_); rintro e w1 ⟨rfl, M, r1, e1, o1⟩; have R1 := Lib.hid r1; have E1 := Lib.hid e1; have O1 := Lib.hid o1; clear r1 e1 o1))
    go_ret2
    exact ⟨rfl, ⟨M, h, c - 1, R1.out, E1.out.symm⟩, O1.out.undrew⟩

theorem take_no {w : World} {b : Nat} {A : Option Nat} {room : Nat} {xs : List Int} (hr : Ring w b A room xs) (i : Int) (hi : i < 0 ∨ (xs.length : Int) ≤ i) :
    Calls Try.prog 26 #[.pointer (some ⟨b, 0, none⟩), .int .i64 i] w fun e w' => e = .returned (.tuple #[.int .i64 0, .int .i64 3]) ∧ w = w' := by
  have AT := Lib.hid (at_no hr i hi)
  clear hr
  go_enter Try.func26, Try.ntmps26
  go_wp2_with (first
      | (go_at_call 25; (with_reducible refine AT.out.mono ?_); rintro e w' ⟨rfl, rfl⟩))
  go_ret2
  exact ⟨rfl, rfl⟩

theorem pop_yes {w : World} {b : Nat} {A : Option Nat} {room : Nat} {x : Int} {xs : List Int} (hr : Ring w b A room (x :: xs)) :
    Calls Try.prog 19 #[.pointer (some ⟨b, 0, none⟩)] w fun e w' => e = .returned (.tuple #[.int .i64 x, .int .i64 0]) ∧ Ring w' b A room xs ∧ Only (b :: A.toList) w w' := by
  have T := Lib.hid (take_yes hr 0 (by simp))
  rw [Int.cast_ofNat_Int] at T
  clear hr
  go_enter Try.func19, Try.ntmps19
  go_wp2_with ((go_at_call 26; (with_reducible refine T.out.mono ?_); rintro e w1 ⟨rfl, r1, o1⟩; have R1 := Lib.hid r1; have O1 := Lib.hid o1; clear r1 o1))
  go_ret2
  exact ⟨rfl, by simpa using R1.out, O1.out⟩
theorem pop_no {w : World} {b : Nat} {A : Option Nat} {room : Nat} (hr : Ring w b A room []) :
    Calls Try.prog 19 #[.pointer (some ⟨b, 0, none⟩)] w fun e w' => e = .returned (.tuple #[.int .i64 0, .int .i64 3]) ∧ w = w' := by
  have T := Lib.hid (take_no hr 0 (.inr (by simp)))
  clear hr
  go_enter Try.func19, Try.ntmps19
  go_wp2_with ((go_at_call 26; (with_reducible refine T.out.mono ?_); rintro e w1 ⟨rfl, rfl⟩))
  go_ret2
  exact ⟨rfl, rfl⟩

end Go.Proofs.Yteebkgclopffbaa
