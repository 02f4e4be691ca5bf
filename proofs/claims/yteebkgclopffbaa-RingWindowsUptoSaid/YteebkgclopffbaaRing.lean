/- What the ring's exported functions do with a ring that lies in memory. -/
import Derived.Test.YteebkgclopffbaaShut
import Derived.Test.YteebkgclopffbaaGrow
import Derived.Test.YteebkgclopffbaaGiven
namespace Go.Proofs.Yteebkgclopffbaa
open Go.RowKit

/-- Block b of w is a ring with that room, A its slots' block, and xs is in it, the head first. -/
def Ring (w : World) (b : Nat) (A : Option Nat) (room : Nat) (xs : List Int) : Prop := ∃ L h c, RAt w b room A L h c ∧ xs = L.take c

/-- The ring's slots' block is the one that it had, or a new one. -/
def NewA (w : World) (A A' : Option Nat) : Prop := A' = A ∨ ∃ g, A' = some g ∧ w.heap.size ≤ g

section
variable {w w' : World} {b : Nat} {A : Option Nat} {room : Nat} {xs : List Int}
theorem Ring.drewN (r : Ring w b A room xs) (k : Nat) : Ring (w.drewN k) b A room xs := by
  obtain ⟨L, h, c, r, e⟩ := r
  exact ⟨L, h, c, r.drewN k, e⟩
theorem Ring.only {S : List Nat} (r : Ring w b A room xs) (o : Only S w w') (hb : b ∉ S) (hA : ∀ g, A = some g → g ∉ S) : Ring w' b A room xs := by
  obtain ⟨L, h, c, r, e⟩ := r
  exact ⟨L, h, c, r.only o hb hA, e⟩
theorem Ring.lt (r : Ring w b A room xs) : b < w.heap.size := by
  obtain ⟨L, h, c, r, e⟩ := r
  exact r.lt
theorem Ring.ltA (r : Ring w b A room xs) : ∀ g, A = some g → g < w.heap.size := by
  obtain ⟨L, h, c, r, e⟩ := r
  rintro g rfl
  exact r.ltA
theorem Ring.len (r : Ring w b A room xs) : xs.length ≤ room := by
  obtain ⟨L, h, c, r, rfl⟩ := r
  have := r.cnt
  have := r.fit
  simp
  omega
theorem Ring.top (r : Ring w b A room xs) : room ≤ 65536 := by
  obtain ⟨L, h, c, r, rfl⟩ := r
  exact r.top
end

theorem take_len {L : List Int} {c : Nat} (h : c ≤ L.length) : (L.take c).length = c := by simp; omega
theorem take_set_snoc {L : List Int} {c : Nat} (h : c < L.length) (x : Int) : (L.set c x).take (c + 1) = L.take c ++ [x] := by
  apply List.ext_getElem?
  intro j
  have hl : (L.take c).length = c := take_len (by omega)
  by_cases e : j < c
  · rw [List.getElem?_append_left (by omega), List.getElem?_take, List.getElem?_take, if_pos (by omega), if_pos e, List.getElem?_set_ne (by omega)]
  · rw [List.getElem?_append_right (by omega), hl, List.getElem?_take]
    by_cases e2 : j = c
    · subst e2
      rw [if_pos (by omega), List.getElem?_set_self h]
      simp
    · rw [if_neg (by omega), List.getElem?_eq_none (by simp; omega)]
theorem take_set_take {L M : List Int} {c : Nat} (e : M.take c = L.take c) (h : c < M.length) (x : Int) : (M.set c x).take (c + 1) = L.take c ++ [x] := by
  rw [take_set_snoc h, e]

/-- Push, where there is room. -/
def Pushed (w : World) (b : Nat) (A : Option Nat) (room : Nat) (xs : List Int) (w' : World) : Prop :=
  ∃ A', Ring w' b A' room xs ∧ NewA w A A' ∧ Only (b :: A.toList) w w'

set_option maxHeartbeats 1000000 in
theorem push_room {w : World} {b : Nat} {A : Option Nat} {room : Nat} {xs : List Int} (hr : Ring w b A room xs) (x : Int) (hroom : xs.length < room) :
    Calls Try.prog 18 #[.pointer (some ⟨b, 0, none⟩), .int .i64 x] w fun e w' => e = .returned (.int .i64 0) ∧ Pushed w b A room (xs ++ [x]) w' := by
  obtain ⟨L, h, c, r, rfl⟩ := hr
  have hcl := r.cnt
  rw [take_len hcl] at hroom
  have htop := r.top
  have c1 := r.c1
  have c4 := r.c4
  have Y := Lib.hid (given_yes b w r.c0)
  have G := Lib.hid (fun q => grow_at (r.drewN q) 1 (by omega))
  rw [Int.cast_ofNat_Int] at G
  have hne : (((c : Int)) == (room : Int)) = false := by simp; omega
  clear r
  go_enter Try.func18, Try.ntmps18
  go_wp2_with ((go_at_call 35; (with_reducible refine Y.out.mono ?_); rintro e w' ⟨rfl, rfl⟩))
  go_quiet (fail)
  go_wp2_with (first
    | (go_at_call 37; (with_reducible refine (G.out _).mono ?_); rintro e w1 ⟨rfl, A1, M, h1, r1, e1, l1, o1, n1⟩; have O1 := Lib.hid o1; have E1 := Lib.hid e1; obtain ⟨g, rfl⟩ := r1.some_ (by omega); have ADD := Lib.hid (add_at r1 x (by omega)); clear r1 o1 e1)
    | (go_at_call 38; (with_reducible refine ADD.out.mono ?_); rintro e w2 ⟨rfl, r2, o2⟩; have R2 := Lib.hid r2; have O2 := Lib.hid o2; clear r2 o2))
  go_ret
  refine ⟨rfl, some g, ⟨_, _, _, R2.out, (take_set_take E1.out (by omega) x).symm⟩, n1, ?_⟩
  refine (O1.out.undrew.more (T := b :: A.toList) (by simp)).trans O2.out ?_
  intro i hi
  simp only [List.mem_cons, List.not_mem_nil, or_false] at hi
  rcases hi with rfl | rfl
  · simp
  · rcases n1 with n1 | ⟨g, e, n1⟩
    · simp [← n1]
    · injection e with e
      subst e
      exact .inr n1

theorem push_full {w : World} {b : Nat} {A : Option Nat} {room : Nat} {xs : List Int} (hr : Ring w b A room xs) (x : Int) (hroom : ¬ xs.length < room) :
    Calls Try.prog 18 #[.pointer (some ⟨b, 0, none⟩), .int .i64 x] w fun e w' => e = .returned (.int .i64 2) ∧ ∃ k, w' = w.drewN k := by
  obtain ⟨L, h, c, r, rfl⟩ := hr
  have hcl := r.cnt
  rw [take_len hcl] at hroom
  have hfit := r.fit
  have c1 := r.c1
  have c4 := r.c4
  have Y := Lib.hid (given_yes b w r.c0)
  have heq : (((c : Int)) == (room : Int)) = true := by simp; omega
  clear r
  go_enter Try.func18, Try.ntmps18
  go_wp2_with ((go_at_call 35; (with_reducible refine Y.out.mono ?_); rintro e w' ⟨rfl, rfl⟩))
  go_quiet (fail)
  go_wp2
  go_ret
  exact ⟨rfl, _, rfl⟩

end Go.Proofs.Yteebkgclopffbaa
