/- A ring in memory, and the ring's inner functions: slot, wipe, add. -/
import Derived.Test.YteebkgclopffbaaBase
import Derived.Test.YteebkgclopffbaaTail
import Derived.Test.YteebkgclopffbaaRot
namespace Go.Proofs.Yteebkgclopffbaa
open Go.RowKit

def ics (l : List Int) : Array Value := (l.map (Value.int .i64)).toArray
theorem ics_at {l : List Int} {i : Nat} {x : Int} (h : l[i]? = some x) : (ics l)[i]? = some (.int .i64 x) := by simp [ics, h]
theorem ics_set (l : List Int) (i : Nat) (x : Int) : (ics l).setIfInBounds i (.int .i64 x) = ics (l.set i x) := by simp [ics, List.map_set]

def spot (A : Option Nat) : Option Addr := A.map fun g => ⟨g, 0, none⟩
def rcs (b room : Nat) (A : Option Nat) (n h c : Nat) : Array Value :=
  #[.pointer (some ⟨b, 0, none⟩), .int .i64 room, .slice (spot A) n n, .int .i64 h, .int .i64 c]

/-- Block b of w is a ring: its room, its slots' block (none: it has no slots yet), the slots from the head on, the head's place, how many there are. -/
structure RAt (w : World) (b room : Nat) (A : Option Nat) (L : List Int) (h c : Nat) : Prop where
  blk : Bk w b 57 (rcs b room A L.length h c)
  sl : ∃ cs, Rot cs h L ∧ ∀ g, A = some g → Bk w g 3 (ics cs)
  no : A = none → L = []
  fit : L.length ≤ room
  top : room ≤ 65536
  cnt : c ≤ L.length
  hd : h < L.length ∨ h = 0

section
variable {w : World} {b room : Nat} {A : Option Nat} {L : List Int} {h c : Nat}
theorem RAt.c0 (r : RAt w b room A L h c) : w.cell? ⟨b, 0, none⟩ = some (.pointer (some ⟨b, 0, none⟩)) := r.blk.cell0 rfl
theorem RAt.c1 (r : RAt w b room A L h c) : w.cell? ⟨b, 1, none⟩ = some (.int .i64 room) := r.blk.cell0 rfl
theorem RAt.c2 (r : RAt w b room A L h c) : w.cell? ⟨b, 2, none⟩ = some (.slice (spot A) L.length L.length) := r.blk.cell0 rfl
theorem RAt.c3 (r : RAt w b room A L h c) : w.cell? ⟨b, 3, none⟩ = some (.int .i64 h) := r.blk.cell0 rfl
theorem RAt.c4 (r : RAt w b room A L h c) : w.cell? ⟨b, 4, none⟩ = some (.int .i64 c) := r.blk.cell0 rfl
theorem RAt.some_ (r : RAt w b room A L h c) (hn : 0 < L.length) : ∃ g, A = some g := by
  cases A with
  | none => rw [r.no rfl] at hn; simp at hn
  | some g => exact ⟨g, rfl⟩
theorem RAt.drewN (r : RAt w b room A L h c) (k : Nat) : RAt (w.drewN k) b room A L h c := ⟨r.blk, r.sl, r.no, r.fit, r.top, r.cnt, r.hd⟩
theorem RAt.only {w' : World} {S : List Nat} (r : RAt w b room A L h c) (o : Only S w w') (hb : b ∉ S) (hA : ∀ g, A = some g → g ∉ S) : RAt w' b room A L h c := by
  obtain ⟨cs, h1, h2⟩ := r.sl
  exact ⟨r.blk.only o hb, ⟨cs, h1, fun g hg => (h2 g hg).only o (hA g hg)⟩, r.no, r.fit, r.top, r.cnt, r.hd⟩
theorem RAt.apart {g : Nat} (r : RAt w b room (some g) L h c) : b ≠ g := by
  obtain ⟨cs, _, h2⟩ := r.sl
  exact r.blk.apart (h2 g rfl) (by decide)
theorem RAt.lt (r : RAt w b room A L h c) : b < w.heap.size := r.blk.lt
theorem RAt.ltA {g : Nat} (r : RAt w b room (some g) L h c) : g < w.heap.size := by
  obtain ⟨cs, _, h2⟩ := r.sl
  exact (h2 g rfl).lt
/-- The slot of thing k. -/
theorem RAt.slot {g k : Nat} (r : RAt w b room (some g) L h c) (hk : k < L.length) : w.cell? ⟨g, (h + k) % L.length, none⟩ = some (.int .i64 (L.getD k 0)) := by
  obtain ⟨cs, h1, h2⟩ := r.sl
  exact (h2 g rfl).cell0 (ics_at (h1.get hk))
theorem RAt.slotFree {g k : Nat} (r : RAt w b room (some g) L h c) : w.frozen? ⟨g, k, none⟩ = false := by
  obtain ⟨cs, _, h2⟩ := r.sl
  exact (h2 g rfl).free k
/-- A store into the slot of thing k. -/
theorem RAt.put {g k : Nat} (r : RAt w b room (some g) L h c) (hk : k < L.length) (x : Int) : RAt (w.setCell ⟨g, (h + k) % L.length, none⟩ (.int .i64 x)) b room (some g) (L.set k x) h c := by
  have hne := r.apart
  obtain ⟨cs, h1, h2⟩ := r.sl
  refine ⟨by rw [List.length_set]; exact r.blk.away hne _, ⟨_, h1.set hk x, fun g' hg' => ?_⟩, (fun e => by cases e), by simpa using r.fit, r.top, by simpa using r.cnt, by simpa using r.hd⟩
  injection hg' with hg'
  subst hg'
  rw [← ics_set]
  exact (h2 g rfl).set _ _
theorem RAt.count (r : RAt w b room A L h c) (c' : Nat) (hc' : c' ≤ L.length) : RAt (w.setCell ⟨b, 4, none⟩ (.int .i64 c')) b room A L h c' := by
  obtain ⟨cs, h1, h2⟩ := r.sl
  refine ⟨?_, ⟨cs, h1, fun g hg => ?_⟩, r.no, r.fit, r.top, hc', r.hd⟩
  · have := r.blk.set 4 (.int .i64 c')
    simpa [rcs] using this
  · subst hg
    exact (h2 g rfl).away (fun e => r.apart e.symm) _
theorem RAt.step (r : RAt w b room A L h c) {x : Int} {T : List Int} (hL : L = x :: T) : RAt (w.setCell ⟨b, 3, none⟩ (.int .i64 ((h + 1) % L.length : Nat))) b room A (T ++ [x]) ((h + 1) % L.length) c := by
  have hlen : (T ++ [x]).length = L.length := by rw [hL]; simp
  obtain ⟨cs, h1, h2⟩ := r.sl
  refine ⟨?_, ⟨cs, h1.step hL, fun g hg => ?_⟩, fun e => ?_, by rw [hlen]; exact r.fit, r.top, by rw [hlen]; exact r.cnt, .inl ?_⟩
  · have := r.blk.set 3 (.int .i64 ((h + 1) % L.length : Nat))
    rw [hlen]
    simpa [rcs] using this
  · subst hg
    exact (h2 g rfl).away (fun e => r.apart e.symm) _
  · have := r.no e
    rw [this] at hL
    cases hL
  · rw [hlen]
    exact Nat.mod_lt _ (by rw [hL]; simp)
theorem RAt.hle (r : RAt w b room A L h c) : h ≤ 65536 := by
  have := r.fit
  have := r.top
  rcases r.hd with h1 | h1 <;> omega
end

theorem modNat (h k n : Nat) : ((h : Int) + (k : Int)) % (n : Int) = (((h + k) % n : Nat) : Int) := by rw [Int.natCast_emod, Int.natCast_add]

set_option maxHeartbeats 400000 in
theorem slot_any (b : Nat) (A : Option Addr) (n h i : Nat) (w : World) (hn : 0 < n) (hn2 : n ≤ 65536) (h1 : h ≤ 65536) (i1 : i ≤ 65536)
    (c2 : w.cell? ⟨b, 2, none⟩ = some (.slice A n n)) (c3 : w.cell? ⟨b, 3, none⟩ = some (.int .i64 h)) :
    Calls Try.prog 40 #[.pointer (some ⟨b, 0, none⟩), .int .i64 i] w fun e w' => e = .returned (.int .i64 ((h + i) % n : Nat)) ∧ ∃ k, w' = w.drewN k := by
  have e1 : IntKind.i64.wrap ((h : Int) + i) = (h : Int) + i := IntWalk.i64_in _ (by omega)
  have e2 : (((n : Int)) == 0) = false := by simp; omega
  go_enter Try.func40, Try.ntmps40
  go_wp2
  go_quiet (fail)
  go_wp2
  go_ret
  exact ⟨by rw [modNat]; rfl, _, rfl⟩

theorem slot_at {w : World} {b room : Nat} {A : Option Nat} {L : List Int} {h c : Nat} (r : RAt w b room A L h c) (i : Nat) (hn : 0 < L.length) (i1 : i ≤ 65536) :
    Calls Try.prog 40 #[.pointer (some ⟨b, 0, none⟩), .int .i64 i] w fun e w' => e = .returned (.int .i64 ((h + i) % L.length : Nat)) ∧ ∃ k, w' = w.drewN k :=
  slot_any b (spot A) L.length h i w hn (Nat.le_trans r.fit r.top) r.hle i1 r.c2 r.c3

set_option maxHeartbeats 400000 in
theorem wipe_any {w : World} {b room g : Nat} {L : List Int} {h c : Nat} (r : RAt w b room (some g) L h c) (i : Nat) (hi : i < L.length) :
    Calls Try.prog 43 #[.pointer (some ⟨b, 0, none⟩), .int .i64 i] w fun e w' => e = .returned (.tuple #[]) ∧ ∃ k, w' = (w.drewN k).setCell ⟨g, (h + i) % L.length, none⟩ (.int .i64 0) := by
  have c2 : w.cell? ⟨b, 2, none⟩ = some (.slice (some ⟨g, 0, none⟩) L.length L.length) := r.c2
  have cg := r.slot hi
  have fg : w.frozen? ⟨g, (h + i) % L.length, none⟩ = false := r.slotFree
  have hm : (h + i) % L.length < L.length := Nat.mod_lt _ (by omega)
  have hs : ∀ W k, W = w.drewN k → Calls Try.prog 40 #[.pointer (some ⟨b, 0, none⟩), .int .i64 i] (w.drewN k) fun e w' => e = .returned (.int .i64 ((h + i) % L.length : Nat)) ∧ ∃ m, w' = (w.drewN k).drewN m :=
    fun _ k _ => slot_at (r.drewN k) i (by omega) (by have := r.fit; have := r.top; omega)
  have HS := Lib.hid hs
  clear hs
  have hsz : L.length ≤ 65536 := Nat.le_trans r.fit r.top
  generalize (h + i) % L.length = m at *
  generalize L.getD i 0 = u at *
  generalize L.length = n at *
  clear r
  go_enter Try.func43, Try.ntmps43
  go_wp2_with fail
  refine wp_region_quiet_then 9 (by kernel_rfl) (by kernel_rfl) ?_
  simp only [List.take_succ_cons, List.take_zero, List.drop_succ_cons, List.drop_zero]
  repeat (go_big_quiet_step ((go_at_call 40; exact Calls.quiet_of (HS.out _ _ rfl))))
  refine wpQuiet_nil ?_
  intro k
  go_wp2
  go_end0
  exact ⟨rfl, _, rfl⟩
theorem wipe_at {w : World} {b room g : Nat} {L : List Int} {h c : Nat} (r : RAt w b room (some g) L h c) (i : Nat) (hi : i < L.length) :
    Calls Try.prog 43 #[.pointer (some ⟨b, 0, none⟩), .int .i64 i] w fun e w' => e = .returned (.tuple #[]) ∧ RAt w' b room (some g) (L.set i 0) h c ∧ Only [g] w w' :=
  (wipe_any r i hi).mono fun _ _ ⟨he, k, hw⟩ => ⟨he, by rw [hw]; exact (r.drewN k).put hi 0, by rw [hw]; exact ((Only.refl _ _).drewN k).set (.inl (by simp)) _⟩

end Go.Proofs.Yteebkgclopffbaa
