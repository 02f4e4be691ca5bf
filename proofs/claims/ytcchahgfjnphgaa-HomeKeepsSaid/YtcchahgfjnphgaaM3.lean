/- Accounts as counts by core and class; scripts of calls in memory; what is asked of the program's accounts. -/
import Derived.Test.YtcchahgfjnphgaaM2
import Derived.Test.YtcchahgfjnphgaaS2
namespace Go.Proofs.Ytcchahgfjnphgaa
open Go.RowKit
set_option maxRecDepth 20000

/-- A call of the script. -/
structure HOp where
  kd : Int
  a : Int
  b : Int
  t : Int
  n : Int
def HOp.ok (x : HOp) : Prop := (-9223372036854775808 ≤ x.n ∧ x.n ≤ 9223372036854775807)
abbrev HOp.cs (x : HOp) : Array Value := #[.int .i64 x.kd, .int .i64 x.a, .int .i64 x.b, .int .i64 x.t, .int .i64 x.n]
def encH (x : HOp) : List Value := [.int .i64 x.kd, .int .i64 x.a, .int .i64 x.b, .int .i64 x.t, .int .i64 x.n]
def kH : List Kd := [.i, .i, .i, .i, .i]
theorem decH {w : World} (cs : List Value) (h : Oks w kH cs) : ∃ a : HOp, a.ok ∧ cs = encH a := by
  simp only [kH, Oks, Kd.ok] at h
  obtain ⟨_, _, rfl, ⟨r, rfl, hr⟩, _, _, rfl, ⟨n, rfl, hn⟩, _, _, rfl, ⟨g, rfl, hg⟩, _, _, rfl, ⟨n', rfl, hn'⟩, _, _, rfl, ⟨g', rfl, hg'⟩, rfl⟩ := h
  exact ⟨⟨r, n, g, n', g'⟩, hg', rfl⟩
noncomputable def KH : Sk HOp where
  e := 38
  t := 27
  k := 5
  by' := 40
  i := (Try.prog.info? 38).getD default
  z := .agg #[.int .i64 0, .int .i64 0, .int .i64 0, .int .i64 0, .int .i64 0]
  enc := encH
  ht := Try.underlying27
  hi := by kernel_rfl
  hz := by kernel_rfl
  hk := by kernel_rfl
  hb := by kernel_rfl
  hzs := rfl
  h0 := by decide
  hb0 := by decide
  henc := fun _ => rfl
  hone := fun a u hu => by
    simp only [encH, List.mem_cons, List.not_mem_nil, or_false] at hu
    rcases hu with rfl | rfl | rfl | rfl | rfl <;> rfl
theorem RdH.at5 {w : World} {A : Option Addr} {xs : List HOp} (h : RdS KH w A xs) (h0 : 0 < xs.length) : ∃ bl off, A = some ⟨bl, off, none⟩ ∧ bl < w.heap.size ∧ ∀ i x, xs[i]? = some x →
    w.cell? ⟨bl, off + i * 5, none⟩ = some (.int .i64 x.kd) ∧ w.cell? ⟨bl, off + i * 5 + 1, none⟩ = some (.int .i64 x.a) ∧ w.cell? ⟨bl, off + i * 5 + 2, none⟩ = some (.int .i64 x.b) ∧
    w.cell? ⟨bl, off + i * 5 + 3, none⟩ = some (.int .i64 x.t) ∧ w.cell? ⟨bl, off + i * 5 + 4, none⟩ = some (.int .i64 x.n) := by
  obtain ⟨bl, off, e, hb, hc⟩ := h.form h0
  exact ⟨bl, off, e, hb, fun i x hx => ⟨hc i x hx 0 _ rfl, hc i x hx 1 _ rfl, hc i x hx 2 _ rfl, hc i x hx 3 _ rfl, hc i x hx 4 _ rfl⟩⟩

/-! ### Counts -/
abbrev Cn : Type := Nat → Nat → Int
def upd (C : Cn) (k c : Nat) (v : Int) : Cn := fun k' c' => if k' = k ∧ c' = c then v else C k' c'
def isAt (n : Nat) (k c : Int) : Prop := (0 ≤ k ∧ k < (n : Int)) ∧ 0 ≤ c ∧ c < 3
instance (n : Nat) (k c : Int) : Decidable (isAt n k c) := inferInstanceAs (Decidable (_ ∧ _))
def takeF (n : Nat) (C : Cn) (k c : Int) : Cn × Int := if isAt n k c then (if C k.toNat c.toNat < 64 then (upd C k.toNat c.toNat (C k.toNat c.toNat + 1), 0) else (C, 170)) else (C, 1)
def giveF (n : Nat) (C : Cn) (k c : Int) : Cn × Int := if isAt n k c then (if 0 < C k.toNat c.toNat then (upd C k.toNat c.toNat (C k.toNat c.toNat - 1), 0) else (C, 3)) else (C, 1)
def moveF (n : Nat) (C : Cn) (k t c m : Int) : Cn × Int :=
  if isAt n k c ∧ isAt n t c ∧ 0 ≤ m then
    (if C k.toNat c.toNat < m then (C, 3) else if k = t then (C, 0) else if 64 < C t.toNat c.toNat + m then (C, 170) else (upd (upd C k.toNat c.toNat (C k.toNat c.toNat - m)) t.toNat c.toNat (C t.toNat c.toNat + m), 0))
  else (C, 1)
/-- All counts are from 0 to 64. -/
def AccOk (n : Nat) (C : Cn) : Prop := ∀ k c, k < n → c < 3 → 0 ≤ C k c ∧ C k c ≤ 64
/-- A class's sum. -/
def sumC (C : Cn) (c : Nat) : Nat → Int
  | 0 => 0
  | k + 1 => sumC C c k + C k c
theorem sumC_upd (C : Cn) (k c c' : Nat) (v : Int) : ∀ n, k < n → sumC (upd C k c v) c' n = sumC C c' n + if c' = c then v - C k c else 0
  | 0, h => absurd h (by omega)
  | n + 1, h => by
    by_cases e : k = n
    · subst e
      have h0 : ∀ m, m ≤ k → sumC (upd C k c v) c' m = sumC C c' m := fun m => by
        induction m with
        | zero => intro _; rfl
        | succ m ih =>
          intro hm
          rw [sumC, sumC, ih (by omega)]
          have : upd C k c v m c' = C m c' := if_neg (by omega)
          rw [this]
      rw [sumC, sumC, h0 k (Nat.le_refl _)]
      by_cases hc : c' = c
      · subst hc
        have : upd C k c' v k c' = v := if_pos ⟨rfl, rfl⟩
        rw [this, if_pos rfl]
        omega
      · have : upd C k c v k c' = C k c' := if_neg (fun h => hc h.2)
        rw [this, if_neg hc]
        omega
    · have : upd C k c v n c' = C n c' := if_neg (by omega)
      rw [sumC, sumC, sumC_upd C k c c' v n (by omega), this]
      omega
theorem sumC_bd {n : Nat} {C : Cn} (h : AccOk n C) {c : Nat} (hc : c < 3) : ∀ k, k ≤ n → 0 ≤ sumC C c k ∧ sumC C c k ≤ 64 * k
  | 0, _ => ⟨Int.le_refl _, Int.le_refl _⟩
  | k + 1, hk => by
    have h1 := sumC_bd h hc k (by omega)
    have h2 := h k c (by omega) hc
    rw [sumC]
    omega
theorem AccOk.upd {n : Nat} {C : Cn} (h : AccOk n C) {k c : Nat} {v : Int} (hv : 0 ≤ v ∧ v ≤ 64) : AccOk n (upd C k c v) := fun k' c' hk hc => by
  unfold Go.Proofs.Ytcchahgfjnphgaa.upd
  split
  · exact hv
  · exact h k' c' hk hc
theorem AccOk.zero (n : Nat) : AccOk n (fun _ _ => 0) := fun _ _ _ _ => ⟨Int.le_refl _, by show (0 : Int) ≤ 64; omega⟩
theorem AccOk.take {n : Nat} {C : Cn} (h : AccOk n C) (k c : Int) : AccOk n (takeF n C k c).1 := by
  unfold takeF
  split
  · rename_i ht
    split
    · have := h k.toNat c.toNat (by unfold isAt at ht; omega) (by unfold isAt at ht; omega)
      exact h.upd (by omega)
    · exact h
  · exact h
theorem AccOk.give {n : Nat} {C : Cn} (h : AccOk n C) (k c : Int) : AccOk n (giveF n C k c).1 := by
  unfold giveF
  split
  · rename_i ht
    split
    · have := h k.toNat c.toNat (by unfold isAt at ht; omega) (by unfold isAt at ht; omega)
      exact h.upd (by omega)
    · exact h
  · exact h
theorem AccOk.move {n : Nat} {C : Cn} (h : AccOk n C) (k t c m : Int) : AccOk n (moveF n C k t c m).1 := by
  unfold moveF
  split
  · rename_i ht
    obtain ⟨h1, h2, h3⟩ := ht
    have b1 := h k.toNat c.toNat (by unfold isAt at h1; omega) (by unfold isAt at h1; omega)
    have b2 := h t.toNat c.toNat (by unfold isAt at h2; omega) (by unfold isAt at h2; omega)
    split
    · exact h
    · split
      · exact h
      · split
        · exact h
        · exact (h.upd (by omega)).upd (by omega)
  · exact h
/-- What Take, Give and Move do to the sums. -/
theorem take_sum {n : Nat} {C : Cn} {k c : Int} (h : (takeF n C k c).2 = 0) : isAt n k c ∧ ∀ c', sumC (takeF n C k c).1 c' n = sumC C c' n + if c' = c.toNat then 1 else 0 := by
  unfold takeF at h ⊢
  split
  · rename_i ht
    rw [if_pos ht] at h
    split
    · refine ⟨ht, fun c' => ?_⟩
      rw [sumC_upd _ _ _ _ _ _ (by unfold isAt at ht; omega)]
      split <;> omega
    · rename_i h2
      rw [if_neg h2] at h
      cases h
  · rename_i ht
    rw [if_neg ht] at h
    cases h
theorem take_no {n : Nat} {C : Cn} {k c : Int} (h : (takeF n C k c).2 ≠ 0) : (takeF n C k c).1 = C := by
  unfold takeF at h ⊢
  split
  · rename_i ht
    rw [if_pos ht] at h
    split
    · rename_i h2
      rw [if_pos h2] at h
      exact absurd rfl h
    · rfl
  · rfl
theorem give_sum {n : Nat} {C : Cn} {k c : Int} (h : (giveF n C k c).2 = 0) : isAt n k c ∧ ∀ c', sumC (giveF n C k c).1 c' n = sumC C c' n - if c' = c.toNat then 1 else 0 := by
  unfold giveF at h ⊢
  split
  · rename_i ht
    rw [if_pos ht] at h
    split
    · refine ⟨ht, fun c' => ?_⟩
      rw [sumC_upd _ _ _ _ _ _ (by unfold isAt at ht; omega)]
      split <;> omega
    · rename_i h2
      rw [if_neg h2] at h
      cases h
  · rename_i ht
    rw [if_neg ht] at h
    cases h
theorem give_no {n : Nat} {C : Cn} {k c : Int} (h : (giveF n C k c).2 ≠ 0) : (giveF n C k c).1 = C := by
  unfold giveF at h ⊢
  split
  · rename_i ht
    rw [if_pos ht] at h
    split
    · rename_i h2
      rw [if_pos h2] at h
      exact absurd rfl h
    · rfl
  · rfl
theorem move_sum {n : Nat} {C : Cn} {k t c m : Int} (c' : Nat) : sumC (moveF n C k t c m).1 c' n = sumC C c' n := by
  unfold moveF
  split
  · rename_i ht
    obtain ⟨h1, h2, h3⟩ := ht
    unfold isAt at h1 h2
    split
    · rfl
    · split
      · rfl
      · rename_i hne
        split
        · rfl
        · rw [sumC_upd _ _ _ _ _ _ (by omega), sumC_upd _ _ _ _ _ _ (by omega)]
          have : upd C k.toNat c.toNat (C k.toNat c.toNat - m) t.toNat c.toNat = C t.toNat c.toNat := if_neg (by omega)
          rw [this]
          split <;> omega
  · rfl

@[go_sem high] theorem ix3_0 (a b c : Int) (w : World) : (Instr.index 36 (.agg #[.int .i64 a, .int .i64 b, .int .i64 c]) (.int .i64 0)).run Try.prog w = .ok (.int .i64 a) w := by
  simp [Instr.index, go_sem]
@[go_sem high] theorem ix3_1 (a b c : Int) (w : World) : (Instr.index 36 (.agg #[.int .i64 a, .int .i64 b, .int .i64 c]) (.int .i64 1)).run Try.prog w = .ok (.int .i64 b) w := by
  simp [Instr.index, go_sem]
@[go_sem high] theorem ix3_2 (a b c : Int) (w : World) : (Instr.index 36 (.agg #[.int .i64 a, .int .i64 b, .int .i64 c]) (.int .i64 2)).run Try.prog w = .ok (.int .i64 c) w := by
  simp [Instr.index, go_sem]
abbrev ptA (b : Nat) : Value := .pointer (some ⟨b, 0, none⟩)
/-- The program's accounts: block b, with its memory F, hold the counts C of n cores. -/
structure AccRep where
  rep : World → Nat → List Nat → Nat → Cn → Prop
  lt : ∀ {w b F n C}, rep w b F n C → ∀ g ∈ F, g < w.heap.size
  only : ∀ {w w' b F n C S}, rep w b F n C → Only S w w' → (∀ g ∈ F, g ∉ S) → rep w' b F n C
  new : ∀ (c : Int) (w : World), Calls Try.prog 9 #[.int .i64 c] w fun e w' => Only [] w w' ∧
    ((1 ≤ c ∧ c ≤ 16 ∧ ∃ b F, e = .returned (.tuple #[ptA b, .int .i64 0]) ∧ rep w' b F c.toNat (fun _ _ => 0) ∧ ∀ g ∈ F, w.heap.size ≤ g) ∨ (¬ (1 ≤ c ∧ c ≤ 16) ∧ e = .returned (.tuple #[.pointer none, .int .i64 1])))
  take : ∀ {w b F n C} (k c : Int), rep w b F n C → Calls Try.prog 11 #[ptA b, .int .i64 k, .int .i64 c] w fun e w' => e = .returned (.int .i64 (takeF n C k c).2) ∧ ∃ F', rep w' b F' n (takeF n C k c).1 ∧ (∀ g ∈ F', g ∈ F ∨ w.heap.size ≤ g) ∧ Only F w w'
  give : ∀ {w b F n C} (k c : Int), rep w b F n C → Calls Try.prog 12 #[ptA b, .int .i64 k, .int .i64 c] w fun e w' => e = .returned (.int .i64 (giveF n C k c).2) ∧ ∃ F', rep w' b F' n (giveF n C k c).1 ∧ (∀ g ∈ F', g ∈ F ∨ w.heap.size ≤ g) ∧ Only F w w'
  move : ∀ {w b F n C} (k t c m : Int), (-9223372036854775808 ≤ m ∧ m ≤ 9223372036854775807) → rep w b F n C → Calls Try.prog 13 #[ptA b, .int .i64 k, .int .i64 t, .int .i64 c, .int .i64 m] w fun e w' => e = .returned (.int .i64 (moveF n C k t c m).2) ∧ ∃ F', rep w' b F' n (moveF n C k t c m).1 ∧ (∀ g ∈ F', g ∈ F ∨ w.heap.size ≤ g) ∧ Only F w w'
  count : ∀ {w b F n C} (k c : Nat), k < n → c < 3 → rep w b F n C → Calls Try.prog 14 #[ptA b, .int .i64 k, .int .i64 c] w fun e w' => e = .returned (.int .i64 (C k c)) ∧ Only [] w w'
  room : ∀ {w b F n C} (k : Nat), k < n → rep w b F n C → Calls Try.prog 15 #[ptA b, .int .i64 k] w fun e w' => e = .returned (.agg #[.int .i64 (64 - C k 0), .int .i64 (64 - C k 1), .int .i64 (64 - C k 2)]) ∧ Only [] w w'
end Go.Proofs.Ytcchahgfjnphgaa
