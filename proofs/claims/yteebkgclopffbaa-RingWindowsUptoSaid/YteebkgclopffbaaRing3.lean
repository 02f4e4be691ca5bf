/- New, Copy of rings. -/
import Derived.Test.YteebkgclopffbaaRing2
namespace Go.Proofs.Yteebkgclopffbaa
open Go.RowKit

theorem mayBe_any (room : Int) (w : World) :
    Calls Try.prog 27 #[.int .i64 room] w fun e w' => e = .returned (.bool (decide (1 ≤ room ∧ room ≤ 65536))) ∧ w = w' := by
  by_cases h1 : 1 ≤ room
  · by_cases h2 : room ≤ 65536
    · have hd : decide (1 ≤ room) = true := decide_eq_true h1
      go_enter Try.func27, Try.ntmps27
      go_wp2
      go_ret
      exact ⟨by simp [h1, h2], rfl⟩
    · have hd : decide (1 ≤ room) = true := decide_eq_true h1
      go_enter Try.func27, Try.ntmps27
      go_wp2
      go_ret
      exact ⟨by simp [h2], rfl⟩
  · have hd : decide (1 ≤ room) = false := decide_eq_false h1
    go_enter Try.func27, Try.ntmps27
    go_wp2
    go_ret
    exact ⟨rfl, rfl⟩

theorem made_any (room : Int) (A : Option Addr) (n : Nat) (w : World) :
    Calls Try.prog 28 #[.int .i64 room, .slice A n n] w fun e w' => e = .returned (.pointer (some ⟨w.heap.size, 0, none⟩)) ∧
      Bk w' w.heap.size 57 #[.pointer (some ⟨w.heap.size, 0, none⟩), .int .i64 room, .slice A n n, .int .i64 0, .int .i64 n] ∧ Only [] w w' := by
  go_enter Try.func28, Try.ntmps28
  go_wp2
  go_ret
  exact ⟨rfl, Bk.made _ _ _, (Only.refl _ _).alloc _⟩

theorem new_yes (room : Nat) (h1 : 1 ≤ room) (h2 : room ≤ 65536) (w : World) :
    Calls Try.prog 8 #[.int .i64 room] w fun e w' => e = .returned (.tuple #[.pointer (some ⟨w.heap.size, 0, none⟩), .int .i64 0]) ∧ Ring w' w.heap.size none room [] ∧ Only [] w w' := by
  have hd : decide (1 ≤ (room : Int) ∧ (room : Int) ≤ 65536) = true := decide_eq_true (by omega)
  have MB := Lib.hid (mayBe_any room w)
  have MD := Lib.hid (made_any room none 0 w)
  rw [hd] at MB
  clear hd
  go_enter Try.func8, Try.ntmps8
  go_wp2_with (first
    | (go_at_call 27; (with_reducible refine MB.out.mono ?_); rintro e w' ⟨rfl, rfl⟩)
    | (go_at_call 28; (with_reducible refine MD.out.mono ?_); rintro e w1 ⟨rfl, b1, o1⟩; have B1 := Lib.hid b1; have O1 := Lib.hid o1; clear b1 o1))
  go_ret2
  exact ⟨rfl, ⟨[], 0, 0, ⟨B1.out, ⟨[], Rot.zero _, (fun g hg => by cases hg)⟩, fun _ => rfl, by simp, h2, Nat.le_refl _, .inr rfl⟩, rfl⟩, O1.out⟩
theorem new_no (room : Int) (h : ¬ (1 ≤ room ∧ room ≤ 65536)) (w : World) :
    Calls Try.prog 8 #[.int .i64 room] w fun e w' => e = .returned (.tuple #[.pointer none, .int .i64 1]) ∧ w = w' := by
  have hd : decide (1 ≤ room ∧ room ≤ 65536) = false := decide_eq_false h
  have MB := Lib.hid (mayBe_any room w)
  rw [hd] at MB
  clear hd
  go_enter Try.func8, Try.ntmps8
  go_wp2_with (first
    | (go_at_call 27; (with_reducible refine MB.out.mono ?_); rintro e w' ⟨rfl, rfl⟩))
  go_ret2
  exact ⟨rfl, rfl⟩

/-- A copy: a ring of its own, in memory of its own. -/
def Copied (w : World) (room : Nat) (xs : List Int) (e : Ending) (w' : World) : Prop :=
  ∃ b G, e = .returned (.pointer (some ⟨b, 0, none⟩)) ∧ w.heap.size ≤ b ∧ w.heap.size ≤ G ∧ Ring w' b (some G) room xs ∧ Only [] w w'
theorem Ring.ofMade {w : World} {b G room : Nat} {xs : List Int} (hB : Bk w b 57 #[.pointer (some ⟨b, 0, none⟩), .int .i64 room, .slice (some ⟨G, 0, none⟩) xs.length xs.length, .int .i64 0, .int .i64 xs.length])
    (hG : Bk w G 3 (ics xs)) (hl : xs.length ≤ room) (ht : room ≤ 65536) : Ring w b (some G) room xs :=
  ⟨xs, 0, xs.length, ⟨hB, ⟨xs, Rot.zero _, (fun g hg => by cases hg; exact hG)⟩, (fun e => by cases e), hl, ht, Nat.le_refl _, .inr rfl⟩, by simp⟩

set_option maxHeartbeats 1000000 in
theorem copy_yes {w : World} {b : Nat} {A : Option Nat} {room : Nat} {xs : List Int} (hr : Ring w b A room xs) :
    Calls Try.prog 13 #[.pointer (some ⟨b, 0, none⟩)] w (Copied w room xs) := by
  have hle := hr.len
  have htop := hr.top
  obtain ⟨L, h, c, r, rfl⟩ := hr
  rw [take_len r.cnt] at hle
  have hcl := r.cnt
  have c1 := r.c1
  have hlt := r.lt
  have Y := Lib.hid (given_yes b w r.c0)
  have r1 : RAt w.drew b room A L h c := r.drewN 1
  have F := Lib.hid (from_at r1 0 (Nat.zero_le _))
  rw [Int.cast_ofNat_Int] at F
  clear r r1
  go_enter Try.func13, Try.ntmps13
  go_wp2_with ((go_at_call 35; (with_reducible refine Y.out.mono ?_); rintro e w' ⟨rfl, rfl⟩))
  go_region_held3 (fun w' => w'.cell? ⟨b, 1, none⟩ = some (.int .i64 room)) (first | assumption | exact c1)
    (first
      | (go_at_call 36; (with_reducible refine F.out.mono ?_); rintro e w1 ⟨rfl, hb, ho⟩; have k1 : w1.cell? ⟨b, 1, none⟩ = some (.int .i64 room) := (ho.cell (p := ⟨b, 1, none⟩) hlt (by simp)).trans c1; have HB := Lib.hid hb; have HO := Lib.hid ho; clear hb ho; have MD := Lib.hid (made_any room (some ⟨w.heap.size, 0, none⟩) c w1))
      | (go_at_call 28; (with_reducible refine MD.out.mono ?_); rintro e w2 ⟨rfl, hb, ho⟩; have k2 : w2.cell? ⟨b, 1, none⟩ = some (.int .i64 room) := (ho.cell (p := ⟨b, 1, none⟩) (Nat.lt_of_lt_of_le hlt HO.out.size) (by simp)).trans k1; have HB2 := Lib.hid hb; have HO2 := Lib.hid ho; clear hb ho))
  go_wp2
  go_ret
  have hl := take_len hcl
  have hG := HB.out.only HO2.out (by simp)
  rw [List.drop_zero] at hG
  exact ⟨_, w.heap.size, rfl, HO.out.size, Nat.le_refl _, Ring.ofMade (by rw [hl]; exact HB2.out) hG (by omega) htop, Only.undrew (n := 1) (HO.out.trans HO2.out (by simp))⟩

end Go.Proofs.Yteebkgclopffbaa
