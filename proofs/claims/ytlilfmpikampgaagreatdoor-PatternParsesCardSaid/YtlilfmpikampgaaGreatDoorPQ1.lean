/- What Parse and Head answer, the program's and the document's: one and the same. -/
import Derived.Test.YtlilfmpikampgaaGreatDoorPD8
import Derived.Test.YtlilfmpikampgaaGreatDoorPZ5
import Derived.Test.YtlilfmpikampgaaGreatDoorPMe
namespace Go.Proofs.YtlilfmpikampgaaGreatDoor
open Go.RowKit

theorem run_good (s : ByteArray) (hs : s.size ≤ 262144) : ∀ (m i n : Nat) (σ : MS) (t : T) (e : Nat), s.size - i ≤ m → i ≤ s.size → MInv n σ → run s σ i = .ok (t, e) → t.Good := by
  intro m
  induction m with
  | zero =>
    intro i n σ t e hm hi hI hr
    cases σ with
    | whole t' => rw [run_whole] at hr; injection hr with hr; injection hr with h1 _; rw [← h1]; exact hI
    | go stk md =>
      have hj : ¬ nxt s i < s.size := by have := nxt_ge s i; omega
      rw [run_end hj] at hr
      cases hr
  | succ m ih =>
    intro i n σ t e hm hi hI hr
    cases σ with
    | whole t' => rw [run_whole] at hr; injection hr with hr; injection hr with h1 _; rw [← h1]; exact hI
    | go stk md =>
      by_cases hj : nxt s i < s.size
      · cases hs1 : mstep (.go stk md) (tkAt s (nxt s i)) with
        | none => rw [run_no hj hs1] at hr; cases hr
        | some σ' =>
          rw [run_yes hj hs1] at hr
          have h1 := nxt_ge s i
          have h2 := fin_bd hj
          exact ih _ _ _ t e (by omega) h2.2 (hI.step hs hs1) hr
      · rw [run_end hj] at hr
        cases hr
theorem good_0 {s : ByteArray} (hs : s.size ≤ 262144) {t : T} {e : Nat} (h : run s (.go [] 0) 0 = .ok (t, e)) : t.Good := run_good s hs s.size 0 0 _ t e (by omega) (by omega) MInv.init h
theorem pspec_run {s : ByteArray} {t : T} (h : pspec s (.go [] 0) 0 = .ok t) : ∃ e, run s (.go [] 0) 0 = .ok (t, e) := by
  unfold pspec at h
  split at h
  · cases h
  · rename_i u e he
    split at h
    · cases h
    · injection h with h
      subst h
      exact ⟨e, he⟩
/-- What Parse answers: the term, the error, the place. -/
def pU (s : ByteArray) : T × Int × Int :=
  if s.size ≤ 262144 then
    match pspec s (.go [] 0) 0 with
    | .error b => (.zero, 40, (b : Int))
    | .ok t => if chk t = 0 then (t, 0, 0) else (.zero, chk t, 0)
  else (.zero, 4, 0)
/-- What Head answers: the term, where it ends, the error. -/
def hU (s : ByteArray) : T × Int × Int :=
  if s.size ≤ 262144 then
    match run s (.go [] 0) 0 with
    | .error _ => (.zero, 0, 40)
    | .ok (t, n) => if chk t = 0 then (t, (n : Int), 0) else (.zero, 0, chk t)
  else (.zero, 0, 4)
theorem pU_fine (s : ByteArray) : (pU s).1.Fine := by
  unfold pU
  split
  · rename_i hs
    split
    · exact .inr rfl
    · rename_i t ht
      obtain ⟨e, he⟩ := pspec_run ht
      split
      · exact .inl (good_0 hs he)
      · exact .inr rfl
  · exact .inr rfl
theorem hU_fine (s : ByteArray) : (hU s).1.Fine := by
  unfold hU
  split
  · rename_i hs
    split
    · exact .inr rfl
    · rename_i t n ht
      split
      · exact .inl (good_0 hs ht)
      · exact .inr rfl
  · exact .inr rfl
/-- Three results: a term, two numbers. -/
def Tells (u : T × Int × Int) (w' : World) (e : Ending) : Prop := ∃ sl F, (∀ b, F b → b < w'.heap.size) ∧ TV w' F u.1 sl ∧ e = .returned (.tuple #[.agg (tcs u.1.k u.1.n u.1.x u.1.y u.1.S u.1.a u.1.b sl), .int .i64 u.2.1, .int .i64 u.2.2])
theorem tells_zero (w : World) (a b : Int) : Tells (.zero, a, b) w (.returned (.tuple #[.agg Z7, .int .i64 a, .int .i64 b])) := ⟨.slice none 0 0, fun _ => False, fun _ h => h.elim, (TV.leaf (by simp)).2 rfl, rfl⟩
theorem tells_p {s : ByteArray} (hs : s.size ≤ 262144) {w' : World} {e : Ending} (h : ParseTells s w' e) : Tells (pU s) w' e := by
  unfold ParseTells at h
  unfold pU
  rw [if_pos hs]
  cases hp : pspec s (.go [] 0) 0 with
  | error b =>
    rw [hp] at h
    simp only at h
    rw [h]
    exact tells_zero w' _ _
  | ok t =>
    rw [hp] at h
    obtain ⟨q, ⟨sl, F, h1, h2, h3⟩, h4⟩ := h
    simp only
    by_cases h0 : chk t = 0
    · rw [if_pos h0]
      rw [if_pos h0] at h3
      exact ⟨sl, F, h1, h2, by rw [h4, h3, h0]⟩
    · rw [if_neg h0]
      rw [if_neg h0] at h3
      rw [h4, h3]
      exact tells_zero w' _ _
theorem tells_h {s : ByteArray} (hs : s.size ≤ 262144) {w' : World} {e : Ending} (h : HeadTells s w' e) : Tells (hU s) w' e := by
  unfold HeadTells at h
  unfold hU
  rw [if_pos hs]
  cases hp : run s (.go [] 0) 0 with
  | error b =>
    rw [hp] at h
    simp only at h
    rw [h]
    exact tells_zero w' _ _
  | ok r =>
    obtain ⟨t, n⟩ := r
    rw [hp] at h
    obtain ⟨q, ⟨sl, F, h1, h2, h3⟩, h4⟩ := h
    simp only
    by_cases h0 : chk t = 0
    · rw [if_pos h0]
      rw [if_pos h0] at h3 h4
      exact ⟨sl, F, h1, h2, by rw [h4, h3, h0]⟩
    · rw [if_neg h0]
      rw [if_neg h0] at h3 h4
      rw [h4, h3]
      exact tells_zero w' _ _
theorem parse_u (s : ByteArray) (w : World) (hv : Vars w) : Calls Tryz.prog 81 #[.string s] w fun e w' => Tells (pU s) w' e ∧ Only [] w w' := by
  by_cases hs : s.size ≤ 262144
  · exact (parse_any s w hs hv).mono fun e w' ⟨h1, h2⟩ => ⟨tells_p hs h1, h2⟩
  · refine (parse_long s w (by omega)).mono fun e w' ⟨h1, h2⟩ => ⟨?_, h2⟩
    unfold pU
    rw [if_neg hs, h1]
    exact tells_zero w' _ _
theorem head_u (s : ByteArray) (w : World) (hv : Vars w) : Calls Tryz.prog 69 #[.string s] w fun e w' => Tells (hU s) w' e ∧ Only [] w w' := by
  by_cases hs : s.size ≤ 262144
  · exact (head_any s w hs hv).mono fun e w' ⟨h1, h2⟩ => ⟨tells_h hs h1, h2⟩
  · refine (head_long s w (by omega)).mono fun e w' ⟨h1, h2⟩ => ⟨?_, h2⟩
    unfold hU
    rw [if_neg hs, h1]
    exact tells_zero w' _ _
end Go.Proofs.YtlilfmpikampgaaGreatDoor
