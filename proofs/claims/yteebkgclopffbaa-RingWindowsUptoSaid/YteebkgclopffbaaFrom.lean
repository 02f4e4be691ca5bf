/- The ring's inner functions: from, grow. -/
import Derived.Test.YteebkgclopffbaaRingIn
namespace Go.Proofs.Yteebkgclopffbaa
open Go.RowKit

theorem int_info : (Try.prog.info? 3).map (fun i => (i.zero, i.size, i.bytes)) = some (some (.int .i64 0), 1, 8) := by kernel_rfl

theorem made_ics (n : Nat) : madeCells #[Value.int .i64 0] n = ics (List.replicate n 0) := by
  apply Array.ext'
  rw [toList_madeCells_one]
  simp [ics]

/-- A row of m places, the first k of them filled with X's. -/
def fillUp (X : List Int) (k m : Nat) : List Int := X.take k ++ List.replicate (m - k) 0
theorem fillUp.start (X : List Int) (m : Nat) : fillUp X 0 m = List.replicate m 0 := by simp [fillUp]
theorem fillUp.len {X : List Int} {k m : Nat} (hk : k ≤ m) (hX : k ≤ X.length) : (fillUp X k m).length = m := by
  simp [fillUp]
  omega
theorem fillUp.step {X : List Int} {k m : Nat} (hk : k < m) (hX : k < X.length) : (fillUp X k m).set k (X.getD k 0) = fillUp X (k + 1) m := by
  apply List.ext_getElem?
  intro j
  have hl : (X.take k).length = k := by simp; omega
  have hl1 : (X.take (k + 1)).length = k + 1 := by simp; omega
  by_cases e : k = j
  · subst e
    rw [List.getElem?_set_self (by rw [fillUp.len (by omega) (by omega)]; exact hk)]
    unfold fillUp
    rw [List.getElem?_append_left (by omega), List.getElem?_take, if_pos (by omega), List.getElem?_eq_getElem hX]
    simp [List.getD, hX]
  · rw [List.getElem?_set_ne e]
    unfold fillUp
    by_cases h1 : j < k
    · rw [List.getElem?_append_left (by omega), List.getElem?_append_left (by omega), List.getElem?_take, List.getElem?_take, if_pos h1, if_pos (by omega)]
    · rw [List.getElem?_append_right (by omega), List.getElem?_append_right (by omega), hl, hl1, List.getElem?_replicate, List.getElem?_replicate]
      by_cases h2 : j < m
      · rw [if_pos (by omega), if_pos (by omega)]
      · rw [if_neg (by omega), if_neg (by omega)]

/-- What holds at the head of from's loop: G is the new row. -/
def FromRel (w : World) (G : Nat) (X : List Int) (m : Nat) (v : Value) (wr : World) : Prop :=
  ∃ k : Nat, v = .int .i64 k ∧ k ≤ m ∧ Bk wr G 3 (ics (fillUp X k m)) ∧ Only [] w wr
theorem FromRel.start (w : World) (X : List Int) (m : Nat) : FromRel w w.heap.size X m (.int .i64 0) (w.alloc (.cells (madeCells #[Value.int .i64 0] m) 3)) :=
  ⟨0, rfl, Nat.zero_le _, by rw [fillUp.start, ← made_ics]; exact Bk.made _ _ _, (Only.refl _ _).alloc _⟩
theorem FromRel.step {w wr : World} {G m k q : Nat} {X : List Int} (hk : k < m) (hX : k < X.length) (hG : w.heap.size ≤ G) (h : Bk wr G 3 (ics (fillUp X k m))) (o : Only [] w wr) :
    FromRel w G X m (.int .i64 ((k : Int) + 1)) ((wr.drewN q).setCell ⟨G, k, none⟩ (.int .i64 (X.getD k 0))) :=
  ⟨k + 1, by go_num, by omega, by
    have := (h.drewN q).set k (.int .i64 (X.getD k 0))
    rwa [ics_set, fillUp.step hk hX] at this, (o.drewN q).set (.inr hG) _⟩

theorem getD_take_drop (L : List Int) (c i k : Nat) (h : i + k < c) : ((L.take c).drop i).getD k 0 = L.getD (i + k) 0 := by
  simp [List.getD, List.getElem?_drop, h]

set_option maxHeartbeats 1000000 in
theorem from_at {w : World} {b room : Nat} {A : Option Nat} {L : List Int} {h c : Nat} (r : RAt w b room A L h c) (i : Nat) (hi : i ≤ c) :
    Calls Try.prog 36 #[.pointer (some ⟨b, 0, none⟩), .int .i64 i] w fun e w' => e = .returned (.slice (some ⟨w.heap.size, 0, none⟩) (c - i) (c - i)) ∧
      Bk w' w.heap.size 3 (ics ((L.take c).drop i)) ∧ Only [] w w' := by
  have hsz : L.length ≤ 65536 := Nat.le_trans r.fit r.top
  have hcl := r.cnt
  have c4 := r.c4
  have R := Lib.hid r
  obtain ⟨m, hm⟩ : ∃ m, m = c - i := ⟨_, rfl⟩
  have hmk := run_make_row' (P := Try.prog) 27 3 (.int .i64 0) 8 Try.underlying27 int_info rfl .i64 .i64 m (by omega) (by omega)
  rw [show ((m : Nat) : Int) = (c : Int) - (i : Int) from by omega] at hmk
  have R0 := Lib.hid (FromRel.start w ((L.take c).drop i) m)
  have HM := Lib.hid hm
  have hmc : m + i = c := by omega
  clear r hm
  go_enter Try.func36, Try.ntmps36
  go_wp2_with fail
  go_loopw [16] (fun v wr => FromRel w w.heap.size ((L.take c).drop i) m v wr) (fun v _ => m - (intOf v).toNat)
  case atStart => exact R0.out
  case round =>
    obtain ⟨k, rfl, hkm, hb, o⟩ := hrel
    by_cases hk : k < m
    · have r : RAt wr b room A L h c := R.out.only o (by simp) (by simp)
      obtain ⟨g, rfl⟩ := r.some_ (by omega)
      have c2 : wr.cell? ⟨b, 2, none⟩ = some (.slice (some ⟨g, 0, none⟩) L.length L.length) := r.c2
      have cg : wr.cell? ⟨g, (h + (i + k)) % L.length, none⟩ = some (.int .i64 (((L.take c).drop i).getD k 0)) := by rw [getD_take_drop L c i k (by omega)]; exact r.slot (by omega)
      have hfl := fillUp.len (X := (L.take c).drop i) (k := k) (m := m) (by omega) (by simp; omega)
      have cG : wr.cell? ⟨w.heap.size, k, none⟩ = some (.int .i64 ((fillUp ((L.take c).drop i) k m).getD k 0)) := hb.cell0 (ics_at (by simp [List.getD, hfl, hk]))
      have fG : wr.frozen? ⟨w.heap.size, k, none⟩ = false := hb.free k
      have hm1 : (h + (i + k)) % L.length < L.length := Nat.mod_lt _ (by omega)
      have S0 := Lib.hid (fun q => slot_at (r.drewN q) (i + k) (by omega) (by omega))
      rw [Int.natCast_add] at S0
      have N0 : ∀ q, FromRel w w.heap.size ((L.take c).drop i) m (.int .i64 ((k : Int) + 1)) ((wr.drewN q).setCell ⟨w.heap.size, k, none⟩ (.int .i64 (((L.take c).drop i).getD k 0))) :=
        fun q => FromRel.step hk (by simp; omega) (Nat.le_refl _) hb o
      have HN := Lib.hid N0
      clear N0 r hb o hfl
      generalize (h + (i + k)) % L.length = m1 at *
      generalize L.length = n at *
      generalize (fillUp ((L.take c).drop i) k m).getD k 0 = x0 at *
      generalize ((L.take c).drop i).getD k 0 = x1 at *
      go_wp2_with fail
      refine wp_region_quiet_then 14 (by kernel_rfl) (by kernel_rfl) ?_
      simp only [List.take_succ_cons, List.take_zero, List.drop_succ_cons, List.drop_zero]
      repeat (go_big_quiet_step ((go_at_call 40; with_reducible exact Calls.quiet_of (S0.out _))))
      refine wpQuiet_nil ?_
      intro q
      go_wp2
      go_roundw
      case rel => exact HN.out q
      case measure => simp [intOf]; omega
    · obtain rfl : k = m := by omega
      have HB := Lib.hid hb
      have HO := Lib.hid o
      clear hb o
      go_wp2
      go_ret
      refine ⟨by rw [← HM.out]; rfl, ?_, HO.out⟩
      have := HB.out
      unfold fillUp at this
      rw [List.take_of_length_le (by simp; omega)] at this
      simpa using this

end Go.Proofs.Yteebkgclopffbaa
