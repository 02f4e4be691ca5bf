/- The document's ring: Push. -/
import Derived.Test.YteebkgclopffbaaMarked
namespace Go.Proofs.Yteebkgclopffbaa
open Go.RowKit

/-- The document's ring as a value. -/
def rv (room : Nat) (A : Option Addr) (n cap : Nat) : Value := .agg #[.int .i64 room, .slice A n cap]

theorem rv_cells (w : World) (room : Nat) (A : Option Addr) (n cap : Nat) : Bk (w.alloc (.cells #[.int .i64 room, .slice A n cap] 29)) w.heap.size 29 #[.int .i64 room, .slice A n cap] := Bk.made _ _ _

/-- Of what was there at w, block k reads as it did. -/
def zeroR : Array Value := #[.int .i64 0, .slice none 0 0]

def RefNew (w : World) (room : Nat) (xs : List Int) (err : Int) (e : Ending) (w' : World) : Prop :=
  ∃ A cap, e = .returned (.tuple #[.agg #[.int .i64 room, .slice A xs.length cap], .int .i64 err]) ∧ xs.length ≤ cap ∧ cap ≤ maxLen ∧ Rd w' A xs ∧ (∀ bl off, A = some ⟨bl, off, none⟩ → w.heap.size ≤ bl) ∧ Only [] w w'

set_option maxHeartbeats 2000000 in
theorem refPush_room {w : World} (room : Nat) (A : Option Addr) (xs : List Int) (cap : Nat) (x : Int) (hR : Rd w A xs) (h0 : xs.length < room) (htop : room ≤ 65536) :
    Calls Try.prog 29 #[.agg #[.int .i64 room, .slice A xs.length cap], .int .i64 x] w (RefNew w room (xs ++ [x]) 0) := by
  have hr0 : ((room : Int) == 0) = false := by simp; omega
  have hne : ((xs.length : Int) == (room : Int)) = false := by simp; omega
  have HR := Lib.hid hR
  clear hR
  go_enter Try.func29, Try.ntmps29
  go_wp2_with fail
  obtain ⟨W0, hW0⟩ : ∃ W0, W0 = (w.alloc (.cells #[.int .i64 room, .slice A xs.length cap] 29)).alloc (.cells #[.int .i64 0, .slice none 0 0] 29) := ⟨_, rfl⟩
  have bx : Bk W0 w.heap.size 29 #[.int .i64 room, .slice A xs.length cap] := by rw [hW0]; exact (Bk.made _ _ _).alloc _
  have br : Bk W0 (w.heap.size + 1) 29 #[.int .i64 0, .slice none 0 0] := by
    rw [hW0]
    have := Bk.made (w.alloc (.cells #[.int .i64 room, .slice A xs.length cap] 29)) 29 #[.int .i64 0, .slice none 0 0]
    simpa using this
  rw [← hW0]
  have k0 := bx.cell0 (i := 0) rfl
  have k1 := bx.cell0 (i := 1) rfl
  have o0 : Only [] w W0 := by rw [hW0]; exact ((Only.refl _ _).alloc _).alloc _
  have hsz : w.heap.size + 2 ≤ W0.heap.size := by rw [hW0]; simp
  have J : Calls Try.prog 42 #[.slice A xs.length cap, .slice (some ⟨W0.heap.size, 0, none⟩) 1 1] (W0.alloc (.cells #[.int .i64 x] 3)).drew (NewL (W0.alloc (.cells #[.int .i64 x] 3)).drew (xs ++ [x])) :=
    joined_any A _ xs [x] cap 1 ((HR.out.only o0 (by simp) : Rd W0 A xs).only (((Only.refl [] _).alloc _).drew) (by simp)) (Rd.of_bk ((Bk.made W0 3 (ics [x])).drew)) (by simp; omega)
  have HJ := Lib.hid J
  have HBX := Lib.hid bx
  have HBR := Lib.hid br
  have HO := Lib.hid o0
  clear hW0 bx br o0 J
  go_region_held3 (fun w' => w'.cell? ⟨w.heap.size, 0, none⟩ = some (.int .i64 room) ∧ w'.cell? ⟨w.heap.size, 1, none⟩ = some (.slice A xs.length cap)) (first | exact ⟨by assumption, by assumption⟩ | go_keep)
    (first
      | (go_at_call 42; (with_reducible refine HJ.out.mono ?_); rintro e w1 ⟨A1, cap1, rfl, hc1, hm1, hR1, hn1, ho1⟩; have q0 := ((HBX.out.alloc _).drew.only ho1 (by simp)).cell0 (i := 0) rfl; have q1 := ((HBX.out.alloc _).drew.only ho1 (by simp)).cell0 (i := 1) rfl; have HBR1 := Lib.hid ((HBR.out.alloc _).drew.only ho1 (by simp)); have s0 := HBR1.out.cell0 (i := 0) rfl; have s1 := HBR1.out.cell0 (i := 1) rfl; have u0 := HBR1.out.free 0; have u1 := HBR1.out.free 1; have HO1 := Lib.hid ho1; have HR1 := Lib.hid hR1; have HN1 := Lib.hid hn1; clear ho1 hR1 hn1))
  go_wp2
  refine bodyPost_ret (v := .tuple #[.agg #[.int .i64 room, .slice A1 (xs.length + 1) cap1], .int .i64 0]) (by simp [results, Try.results29, go_sem, s0, s1]) rfl ?_
  have hlen : (xs ++ [x]).length = xs.length + 1 := by simp
  refine ⟨A1, cap1, by rw [hlen], hc1, hm1, ?_, ?_, ?_⟩
  · refine ((HR1.out.only ((Only.refl [w.heap.size + 1] _).set (.inl (by simp)) _) ?_).only ((Only.refl [w.heap.size + 1] _).set (.inl (by simp)) _) ?_)
    all_goals
      intro _ bl off e
      have h := HN1.out bl off e
      have h2 : W0.heap.size + 1 ≤ bl := by simpa using h
      simp only [List.mem_cons, List.not_mem_nil, or_false]
      omega
  · intro bl off e
    have h := HN1.out bl off e
    have h2 : W0.heap.size + 1 ≤ bl := by simpa using h
    omega
  · have h1 : Only [] w w1 := (((HO.out.alloc _).drew).trans HO1.out (by simp))
    exact (h1.set (.inr (by simp)) _).set (.inr (by simp)) _

set_option maxHeartbeats 2000000 in
theorem refPush_full {w : World} (room : Nat) (A : Option Addr) (n cap : Nat) (x : Int) (h1 : 1 ≤ room) (h0 : n = room) (htop : room ≤ 65536) :
    Calls Try.prog 29 #[.agg #[.int .i64 room, .slice A n cap], .int .i64 x] w fun e w' => e = .returned (.tuple #[.agg #[.int .i64 room, .slice A n cap], .int .i64 2]) ∧ Only [] w w' := by
  have hr0 : ((room : Int) == 0) = false := by simp; omega
  have hne : ((n : Int) == (room : Int)) = true := by simp; omega
  clear h0
  go_enter Try.func29, Try.ntmps29
  go_wp2
  refine bodyPost_ret (v := .tuple #[.agg #[.int .i64 room, .slice A n cap], .int .i64 2]) (by simp [results, Try.results29, go_sem]) rfl ⟨rfl, ?_⟩
  exact ((Only.refl _ _).alloc _).alloc _

set_option maxHeartbeats 2000000 in
theorem refAt_no {w : World} (room : Nat) (A : Option Addr) (n cap : Nat) (i : Int) (h1 : 1 ≤ room) (hi : i < 0 ∨ (n : Int) ≤ i) :
    Calls Try.prog 31 #[.agg #[.int .i64 room, .slice A n cap], .int .i64 i] w fun e w' => e = .returned (.tuple #[.int .i64 0, .int .i64 3]) ∧ Only [] w w' := by
  have hr0 : ((room : Int) == 0) = false := by simp; omega
  by_cases h : i < 0
  · have hd : decide (i < 0) = true := decide_eq_true h
    go_enter Try.func31, Try.ntmps31
    go_wp2
    go_ret2
    exact ⟨rfl, (Only.refl _ _).alloc _⟩
  · have hd : decide (i < 0) = false := decide_eq_false h
    have hge : (n : Int) ≤ i := by omega
    go_enter Try.func31, Try.ntmps31
    go_wp2
    go_ret2
    exact ⟨rfl, (Only.refl _ _).alloc _⟩

set_option maxHeartbeats 2000000 in
theorem refAt_yes {w : World} (room : Nat) (A : Option Addr) (xs : List Int) (cap : Nat) (i : Nat) (h1 : 1 ≤ room) (hR : Rd w A xs) (hi : i < xs.length) (hx : xs.length ≤ 65536) :
    Calls Try.prog 31 #[.agg #[.int .i64 room, .slice A xs.length cap], .int .i64 i] w fun e w' => e = .returned (.tuple #[.int .i64 (xs.getD i 0), .int .i64 0]) ∧ Only [] w w' := by
  have hr0 : ((room : Int) == 0) = false := by simp; omega
  have hi0 : ¬ (i : Int) < 0 := by omega
  have hd : decide ((i : Int) < 0) = false := decide_eq_false hi0
  rcases hR with rfl | ⟨bl, off, rfl, hb, hc⟩
  · simp at hi
  · have hcell : ∀ o : Obj, (w.alloc o).cell? ⟨bl, off + i, none⟩ = some (.int .i64 (xs.getD i 0)) := fun o => (World.cell?_alloc_lt _ _ _ hb).trans (hc i _ (getElem?_getD hi))
    generalize xs.getD i 0 = x at *
    clear hc hb
    go_enter Try.func31, Try.ntmps31
    go_wp2
    go_ret2
    exact ⟨rfl, (Only.refl _ _).alloc _⟩

set_option maxHeartbeats 2000000 in
theorem refTake_no {w : World} (room : Nat) (A : Option Addr) (n cap : Nat) (i : Int) (h1 : 1 ≤ room) (hi : i < 0 ∨ (n : Int) ≤ i) :
    Calls Try.prog 32 #[.agg #[.int .i64 room, .slice A n cap], .int .i64 i] w fun e w' => e = .returned (.tuple #[.agg #[.int .i64 room, .slice A n cap], .int .i64 0, .int .i64 3]) ∧ Only [] w w' := by
  have AT := Lib.hid (fun W => refAt_no (w := W) room A n cap i h1 hi)
  go_enter Try.func32, Try.ntmps32
  go_wp2_with fail
  obtain ⟨W0, hW0⟩ : ∃ W0, W0 = (w.alloc (.cells #[.int .i64 room, .slice A n cap] 29)).alloc (.cells #[.int .i64 0, .slice none 0 0] 29) := ⟨_, rfl⟩
  have bx : Bk W0 w.heap.size 29 #[.int .i64 room, .slice A n cap] := by rw [hW0]; exact (Bk.made _ _ _).alloc _
  have br : Bk W0 (w.heap.size + 1) 29 #[.int .i64 0, .slice none 0 0] := by
    rw [hW0]
    have := Bk.made (w.alloc (.cells #[.int .i64 room, .slice A n cap] 29)) 29 #[.int .i64 0, .slice none 0 0]
    simpa using this
  have o0 : Only [] w W0 := by rw [hW0]; exact ((Only.refl _ _).alloc _).alloc _
  rw [← hW0]
  have HBX := Lib.hid bx
  have HBR := Lib.hid br
  have HO := Lib.hid o0
  clear bx br o0 hW0
  (with_reducible refine (AT.out _).mono ?_)
  rintro e w1 ⟨rfl, o1⟩
  have q0 : w1.cell? ⟨w.heap.size, 0, none⟩ = some (.int .i64 room) := (HBX.out.only o1 (by simp)).cell0 rfl
  have q1 : w1.cell? ⟨w.heap.size, 1, none⟩ = some (.slice A n cap) := (HBX.out.only o1 (by simp)).cell0 rfl
  have s0 : w1.cell? ⟨w.heap.size + 1, 0, none⟩ = some (.int .i64 0) := (HBR.out.only o1 (by simp)).cell0 rfl
  have s1 : w1.cell? ⟨w.heap.size + 1, 1, none⟩ = some (.slice none 0 0) := (HBR.out.only o1 (by simp)).cell0 rfl
  have u0 := (HBR.out.only o1 (by simp)).free 0
  have u1 := (HBR.out.only o1 (by simp)).free 1
  have HO1 := Lib.hid (HO.out.trans o1 (by simp))
  clear o1
  go_wp2
  refine bodyPost_ret (v := .tuple #[.agg #[.int .i64 room, .slice A n cap], .int .i64 0, .int .i64 3]) (by simp [results, Try.results32, go_sem, s0, s1]) rfl ⟨rfl, ?_⟩
  exact (HO1.out.set (.inr (by simp)) _).set (.inr (by simp)) _

end Go.Proofs.Yteebkgclopffbaa
