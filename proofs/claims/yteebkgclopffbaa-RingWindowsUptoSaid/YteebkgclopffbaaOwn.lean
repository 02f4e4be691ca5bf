/- A ring of the call's own, over a base world; awake. -/
import Derived.Test.YteebkgclopffbaaSame
namespace Go.Proofs.Yteebkgclopffbaa
open Go.RowKit

/-- Since w0 only memory of the call's own has turned, and block b is a ring of the call's own. -/
def OwnR (w0 w : World) (b room : Nat) (xs : List Int) : Prop :=
  ∃ A, Ring w b A room xs ∧ w0.heap.size ≤ b ∧ (∀ g, A = some g → w0.heap.size ≤ g) ∧ Only [] w0 w

section
variable {w0 w w' : World} {b room : Nat} {xs ys : List Int}
theorem OwnR.drewN (h : OwnR w0 w b room xs) (k : Nat) : OwnR w0 (w.drewN k) b room xs := by
  obtain ⟨A, r, h1, h2, o⟩ := h
  exact ⟨A, r.drewN k, h1, h2, o.drewN k⟩
theorem OwnR.only_ (h : OwnR w0 w b room xs) : Only [] w0 w := by
  obtain ⟨A, r, h1, h2, o⟩ := h
  exact o
theorem OwnR.quiet (h : OwnR w0 w b room xs) (o : Only [] w w') : OwnR w0 w' b room xs := by
  obtain ⟨A, r, h1, h2, o2⟩ := h
  exact ⟨A, r.only o (by simp) (by simp), h1, h2, o2.trans o (by simp)⟩
theorem OwnR.len (h : OwnR w0 w b room xs) : xs.length ≤ room := by
  obtain ⟨A, r, _⟩ := h
  exact r.len
theorem OwnR.top (h : OwnR w0 w b room xs) : room ≤ 65536 := by
  obtain ⟨A, r, _⟩ := h
  exact r.top
theorem OwnR.pushed (h : OwnR w0 w b room xs) {A : Option Nat} (r : Ring w b A room xs) (h1 : w0.heap.size ≤ b) (h2 : ∀ g, A = some g → w0.heap.size ≤ g) (p : Pushed w b A room ys w') : OwnR w0 w' b room ys := by
  obtain ⟨A', r', n, o⟩ := p
  have ho := h.only_
  refine ⟨A', r', h1, fun g hg => ?_, ho.trans o ?_⟩
  · rcases n with n | ⟨g', n, n2⟩
    · exact h2 g (by rw [← n]; exact hg)
    · rw [n] at hg
      injection hg with hg
      subst hg
      exact Nat.le_trans ho.size n2
  · intro i hi
    simp only [List.mem_cons, Option.mem_toList] at hi
    rcases hi with rfl | hi
    · exact .inr h1
    · exact .inr (h2 i (by simpa using hi))
theorem OwnR.turned {A : Option Nat} (h : OwnR w0 w b room xs) (h1 : w0.heap.size ≤ b) (h2 : ∀ g, A = some g → w0.heap.size ≤ g) (r' : Ring w' b A room ys) (o : Only (b :: A.toList) w w') : OwnR w0 w' b room ys :=
  ⟨A, r', h1, h2, h.only_.trans o (by
    intro i hi
    simp only [List.mem_cons, Option.mem_toList] at hi
    rcases hi with rfl | hi
    · exact .inr h1
    · exact .inr (h2 i (by simpa using hi)))⟩
end

theorem own_new (room : Nat) (h1 : 1 ≤ room) (h2 : room ≤ 65536) (w0 w : World) (ho : Only [] w0 w) :
    Calls Try.prog 8 #[.int .i64 room] w fun e w' => e = .returned (.tuple #[.pointer (some ⟨w.heap.size, 0, none⟩), .int .i64 0]) ∧ OwnR w0 w' w.heap.size room [] :=
  (new_yes room h1 h2 w).mono fun _ _ ⟨he, r, o⟩ => ⟨he, none, r, ho.size, (fun g hg => by cases hg), ho.trans o (by simp)⟩
theorem own_push {w0 w : World} {b room : Nat} {xs : List Int} (h : OwnR w0 w b room xs) (x : Int) (hl : xs.length < room) :
    Calls Try.prog 18 #[.pointer (some ⟨b, 0, none⟩), .int .i64 x] w fun e w' => e = .returned (.int .i64 0) ∧ OwnR w0 w' b room (xs ++ [x]) := by
  have h' := h
  obtain ⟨A, r, h1, h2, o⟩ := h'
  exact (push_room r x hl).mono fun _ _ ⟨he, p⟩ => ⟨he, h.pushed r h1 h2 p⟩
theorem own_push_full {w0 w : World} {b room : Nat} {xs : List Int} (h : OwnR w0 w b room xs) (x : Int) (hl : ¬ xs.length < room) :
    Calls Try.prog 18 #[.pointer (some ⟨b, 0, none⟩), .int .i64 x] w fun e w' => e = .returned (.int .i64 2) ∧ OwnR w0 w' b room xs := by
  have h' := h
  obtain ⟨A, r, h1, h2, o⟩ := h'
  exact (push_full r x hl).mono fun _ _ ⟨he, k, hw⟩ => ⟨he, by rw [hw]; exact h.drewN k⟩
theorem own_pop {w0 w : World} {b room : Nat} {x : Int} {xs : List Int} (h : OwnR w0 w b room (x :: xs)) :
    Calls Try.prog 19 #[.pointer (some ⟨b, 0, none⟩)] w fun e w' => e = .returned (.tuple #[.int .i64 x, .int .i64 0]) ∧ OwnR w0 w' b room xs := by
  have h' := h
  obtain ⟨A, r, h1, h2, o⟩ := h'
  exact (pop_yes r).mono fun _ _ ⟨he, r', o'⟩ => ⟨he, h.turned h1 h2 r' o'⟩
theorem own_pop_no {w0 w : World} {b room : Nat} (h : OwnR w0 w b room []) :
    Calls Try.prog 19 #[.pointer (some ⟨b, 0, none⟩)] w fun e w' => e = .returned (.tuple #[.int .i64 0, .int .i64 3]) ∧ w = w' := by
  obtain ⟨A, r, h1, h2, o⟩ := h
  exact pop_no r
theorem own_items {w0 w : World} {b room : Nat} {xs : List Int} (h : OwnR w0 w b room xs) :
    Calls Try.prog 24 #[.pointer (some ⟨b, 0, none⟩)] w fun e w' => e = .returned (.slice (some ⟨w.heap.size, 0, none⟩) xs.length xs.length) ∧ Bk w' w.heap.size 3 (ics xs) ∧ OwnR w0 w' b room xs := by
  have h' := h
  obtain ⟨A, r, h1, h2, o⟩ := h'
  exact (items_yes r).mono fun _ _ ⟨he, hb, o'⟩ => ⟨he, hb, h.quiet o'⟩

set_option maxHeartbeats 2000000 in
theorem awake_any (w : World) : Calls Try.prog 10 #[] w fun e w' => e = .returned (.bool true) ∧ Only [] w w' := by
  have NW := Lib.hid (own_new 3 (by omega) (by omega) w w (Only.refl _ _))
  rw [Int.cast_ofNat_Int] at NW
  generalize hb : w.heap.size = b at NW
  clear hb
  go_enter Try.func10, Try.ntmps10
  go_wp2_with fail
  (with_reducible refine NW.out.mono ?_)
  rintro e w1 ⟨rfl, r1⟩
  have P1 := Lib.hid (own_push r1 5 (by decide))
  clear r1
  go_wp2_with fail
  (with_reducible refine P1.out.mono ?_)
  rintro e w2 ⟨rfl, r2⟩
  have P2 := Lib.hid (own_push (xs := [5]) r2 6 (by decide))
  clear r2
  go_wp2_with fail
  (with_reducible refine P2.out.mono ?_)
  rintro e w3 ⟨rfl, r3⟩
  have P3 := Lib.hid (own_push (xs := [5, 6]) r3 7 (by decide))
  clear r3
  go_wp2_with fail
  (with_reducible refine P3.out.mono ?_)
  rintro e w4 ⟨rfl, r4⟩
  have P4 := Lib.hid (own_pop (x := 5) (xs := [6, 7]) r4)
  clear r4
  go_wp2_with fail
  (with_reducible refine P4.out.mono ?_)
  rintro e w5 ⟨rfl, r5⟩
  have P5 := Lib.hid (own_push (xs := [6, 7]) r5 8 (by decide))
  clear r5
  go_wp2_with fail
  (with_reducible refine P5.out.mono ?_)
  rintro e w6 ⟨rfl, r6⟩
  have P6 := Lib.hid (own_push_full (xs := [6, 7, 8]) r6 9 (by decide))
  clear r6
  go_wp2_with fail
  (with_reducible refine P6.out.mono ?_)
  rintro e w7 ⟨rfl, r7⟩
  have P7 := Lib.hid (own_items (xs := [6, 7, 8]) r7)
  clear r7
  go_wp2_with fail
  (with_reducible refine P7.out.mono ?_)
  rintro e w8 ⟨rfl, b8, r8⟩
  have b9 : Bk (w8.alloc (.cells #[.int .i64 6, .int .i64 7, .int .i64 8] 3)) w7.heap.size 3 (ics [6, 7, 8]) := b8.alloc _
  have s9 := same_any _ _ [6, 7, 8] [6, 7, 8] 3 3 (Rd.of_bk b9) (Rd.of_bk (Bk.made w8 3 (ics [6, 7, 8]))) (by decide) (by decide)
  simp only [List.length_cons, List.length_nil, Nat.zero_add, Nat.reduceAdd, decide_true] at s9
  have S9 := Lib.hid s9
  have R8 := Lib.hid r8.only_
  clear b8 r8 b9 s9
  go_wp2_with fail
  (with_reducible refine S9.out.mono ?_)
  rintro e w10 ⟨rfl, q, rfl⟩
  go_wp2
  go_ret
  exact ⟨rfl, (R8.out.alloc _).drewN q⟩

end Go.Proofs.Yteebkgclopffbaa
