/- The document's descent and the machine; what At tells, by what the token is. -/
import Derived.Test.YtlpafnibcmcjgaaGreatDoorDd
namespace Go.Proofs.YtlpafnibcmcjgaaGreatDoor
open Go.RowKit

/-- The sign that ends a tuple or a list. -/
def shB (k : Int) : Nat := if k = 8 then 125 else 93
theorem m_term {s : ByteArray} {i : Nat} {t : T} (hj : nxt s i < s.size) (h : tkAt s (nxt s i) = .term t) (stk : List Opn) : run s (.go stk 0) i = run s (put stk t) (fin s (nxt s i)) :=
  run_yes hj (by rw [h]; simp [mstep])
theorem m_end {s : ByteArray} {i : Nat} (hj : ¬ nxt s i < s.size) (hi : i ≤ s.size) (stk : List Opn) (md : Nat) : run s (.go stk md) i = .error (nxt s i) := by
  have := nxt_le s hi
  rw [run_end hj, show nxt s i = s.size by omega]
theorem m_bad {s : ByteArray} {i : Nat} (hj : nxt s i < s.size) (h : tkAt s (nxt s i) = .bad) (stk : List Opn) (md : Nat) : run s (.go stk md) i = .error (nxt s i) :=
  run_no hj (by rw [h]; rfl)
theorem m_sign0 {s : ByteArray} {i : Nat} {b : UInt8} (hj : nxt s i < s.size) (h : tkAt s (nxt s i) = .sign b) (hb : b.toNat ≠ 123 ∧ b.toNat ≠ 91) (stk : List Opn) : run s (.go stk 0) i = .error (nxt s i) :=
  run_no hj (by
    rw [h]
    simp only [mstep]
    rw [if_neg (by omega)]
    split
    · rfl
    · rfl)
theorem m_open {s : ByteArray} {i : Nat} {b : UInt8} (hj : nxt s i < s.size) (h : tkAt s (nxt s i) = .sign b) (hb : b.toNat = 123 ∨ b.toNat = 91) (stk : List Opn) : run s (.go stk 0) i = run s (.go (⟨kOf b, []⟩ :: stk) 1) (fin s (nxt s i)) :=
  run_yes hj (by
    rw [h]
    simp only [mstep]
    rw [if_pos hb]
    rfl)
theorem m_shut {s : ByteArray} {i : Nat} {b : UInt8} {k : Int} {l : List T} {md : Nat} (hj : nxt s i < s.size) (h : tkAt s (nxt s i) = .sign b) (hk : k = 8 ∨ k = 9) (hb : b.toNat = shB k) (hm : md ≠ 0) (stk : List Opn) : run s (.go (⟨k, l⟩ :: stk) md) i = run s (put stk (.tup k l)) (fin s (nxt s i)) :=
  run_yes hj (by
    have hb' : (b.toNat = 125 ∧ k = 8) ∨ (b.toNat = 93 ∧ k = 9) := by
      unfold shB at hb
      rcases hk with rfl | rfl
      · exact .inl ⟨by simpa using hb, rfl⟩
      · exact .inr ⟨by simpa using hb, rfl⟩
    have hk2 : k = kOf b := by
      unfold kOf
      rcases hb' with ⟨h1, h2⟩ | ⟨h1, h2⟩
      · rw [if_pos (.inr h1)]; exact h2
      · rw [if_neg (by omega)]; exact h2
    rw [h]
    simp only [mstep]
    rw [if_neg (by omega), if_neg (by omega), if_neg hm, if_pos hk2])
theorem kOf_sh {b : UInt8} {k : Int} (hk : k = 8 ∨ k = 9) (h : b.toNat ≠ shB k) (h1 : ¬ (b.toNat = 123 ∨ b.toNat = 91)) (h2 : b.toNat ≠ 44) (hs : isSg b = true) : k ≠ kOf b := by
  have h3 : b.toNat = 125 ∨ b.toNat = 93 := by
    simp only [isSg, Bool.or_eq_true, decide_eq_true_eq] at hs
    omega
  unfold shB at h
  unfold kOf
  rcases hk with rfl | rfl
  · rw [if_neg (by simp at h; omega)]; decide
  · rw [if_pos (by simp at h; omega)]; decide
/-- Behind what opens, if no sign that shuts it comes: as where a term must come. -/
theorem m_start {s : ByteArray} {i : Nat} {k : Int} (hi : i ≤ s.size) (hk : k = 8 ∨ k = 9) (h : ∀ b, nxt s i < s.size → tkAt s (nxt s i) = .sign b → isSg b = true ∧ b.toNat ≠ shB k) (l : List T) (stk : List Opn) : run s (.go (⟨k, l⟩ :: stk) 1) i = run s (.go (⟨k, l⟩ :: stk) 0) i := by
  by_cases hj : nxt s i < s.size
  · have hm : mstep (.go (⟨k, l⟩ :: stk) 1) (tkAt s (nxt s i)) = mstep (.go (⟨k, l⟩ :: stk) 0) (tkAt s (nxt s i)) := by
      cases ht : tkAt s (nxt s i) with
      | bad => rfl
      | term t => rfl
      | sign b =>
        obtain ⟨h1, h2⟩ := h b hj ht
        simp only [mstep]
        by_cases h3 : b.toNat = 123 ∨ b.toNat = 91
        · rw [if_pos h3, if_pos h3]; rfl
        · rw [if_neg h3, if_neg h3]
          by_cases h4 : b.toNat = 44
          · rw [if_pos h4, if_pos h4]; rfl
          · rw [if_neg h4, if_neg h4, if_neg (by decide), if_neg (kOf_sh hk h2 h3 h4 h1), if_pos trivial]
    cases hs : mstep (.go (⟨k, l⟩ :: stk) 0) (tkAt s (nxt s i)) with
    | none => rw [run_no hj hs, run_no hj (hm.trans hs)]
    | some σ => rw [run_yes hj hs, run_yes hj (hm.trans hs)]
  · rw [m_end hj hi, m_end hj hi]
theorem m_comma {s : ByteArray} {i : Nat} {b : UInt8} (hj : nxt s i < s.size) (h : tkAt s (nxt s i) = .sign b) (hb : b.toNat = 44) (stk : List Opn) : run s (.go stk 2) i = run s (.go stk 0) (fin s (nxt s i)) :=
  run_yes hj (by
    rw [h]
    simp only [mstep]
    rw [if_neg (by omega), if_pos hb]
    rfl)
/-- Behind a whole term neither what shuts nor a comma. -/
theorem m_other {s : ByteArray} {i : Nat} {k : Int} (hi : i ≤ s.size) (hk : k = 8 ∨ k = 9) (h : ∀ b, nxt s i < s.size → tkAt s (nxt s i) = .sign b → isSg b = true ∧ b.toNat ≠ shB k ∧ b.toNat ≠ 44) (l : List T) (stk : List Opn) : run s (.go (⟨k, l⟩ :: stk) 2) i = .error (nxt s i) := by
  by_cases hj : nxt s i < s.size
  · refine run_no hj ?_
    cases ht : tkAt s (nxt s i) with
    | bad => rfl
    | term t => rfl
    | sign b =>
      obtain ⟨h1, h2, h3⟩ := h b hj ht
      simp only [mstep]
      by_cases h4 : b.toNat = 123 ∨ b.toNat = 91
      · rw [if_pos h4]; rfl
      · rw [if_neg h4, if_neg h3, if_neg (by decide), if_neg (kOf_sh hk h2 h4 h3 h1)]
  · exact m_end hj hi _ _

/-! ### What At tells -/
theorem tk_sign_sg {s : ByteArray} {j : Nat} {b : UInt8} (h : tkAt s j = .sign b) : (lst s)[j]? = some b ∧ isSg b = true := by
  unfold tkAt at h
  split at h
  · cases h
  · rename_i c hc
    split at h
    · rename_i hs
      injection h with h
      subst h
      exact ⟨hc, hs⟩
    · split at h <;> cases h
theorem at_t (s : ByteArray) (i : Nat) (t : T) (D : Int) (w : World) (hs : s.size ≤ 262144) (hi : i ≤ s.size) (hD : D = (i : Int)) (hj : nxt s i < s.size) (h : tkAt s (nxt s i) = .term t) :
    Calls Tryz.prog 20 #[.string s, .int .i64 D] w fun v w' => v = .returned (.agg (tkT t (nxt s i) (fin s (nxt s i)))) ∧ Only [] w w' := by
  subst hD
  refine (at_any s i w hs hi).mono fun v w' ⟨h1, h2⟩ => ⟨?_, h2⟩
  unfold AtE at h1
  rw [if_pos hj] at h1
  unfold TokE at h1
  rw [h] at h1
  exact h1
theorem at_s (s : ByteArray) (i j : Nat) (b : UInt8) (D : Int) (w : World) (hs : s.size ≤ 262144) (hi : i ≤ s.size) (hD : D = (i : Int)) (hn : nxt s i = j) (hj : j < s.size) (h : tkAt s j = .sign b) :
    Calls Tryz.prog 20 #[.string s, .int .i64 D] w fun v w' => v = .returned (.agg (tks 1 b.toNat 0 0 0 0 ⟨#[]⟩ 0 0 (.slice none 0 0) j ((j : Int) + 1))) ∧ Only [] w w' := by
  subst hD hn
  refine (at_any s i w hs hi).mono fun v w' ⟨h1, h2⟩ => ⟨?_, h2⟩
  unfold AtE at h1
  rw [if_pos hj] at h1
  unfold TokE at h1
  rw [h] at h1
  exact h1
/-- Any token: its kind, its sign, where it stands. -/
theorem at_x (s : ByteArray) (i j : Nat) (D : Int) (w : World) (hs : s.size ≤ 262144) (hi : i ≤ s.size) (hD : D = (i : Int)) (hn : nxt s i = j) (x y : Nat) (hxy : ∀ b, j < s.size → tkAt s j = .sign b → b.toNat ≠ x ∧ b.toNat ≠ y) (ht : ∀ t, j < s.size → tkAt s j ≠ .term t) :
    Calls Tryz.prog 20 #[.string s, .int .i64 D] w fun v w' => (∃ (kd sg k n : Int) (X Y : Nat) (S : ByteArray) (a b e : Int), v = .returned (.agg (tks kd sg k n X Y S a b (.slice none 0 0) j e)) ∧ kd ≠ 2 ∧ (kd ≠ 1 ∨ (kd = 1 ∧ sg ≠ (x : Int) ∧ sg ≠ (y : Int)))) ∧ Only [] w w' := by
  subst hD hn
  refine (at_any s i w hs hi).mono fun v w' ⟨h1, h2⟩ => ⟨?_, h2⟩
  unfold AtE at h1
  split at h1
  · rename_i hj
    unfold TokE at h1
    split at h1
    · rename_i b hb
      obtain ⟨h3, h4⟩ := hxy b hj hb
      exact ⟨_, _, _, _, _, _, _, _, _, _, h1, by decide, .inr ⟨rfl, by omega, by omega⟩⟩
    · rename_i t htk
      exact absurd htk (ht t hj)
    · obtain ⟨e', rfl⟩ := h1
      exact ⟨_, _, _, _, _, _, _, _, _, _, rfl, by decide, .inl (by decide)⟩
  · have := nxt_le s hi
    have e : nxt s i = s.size := by omega
    rw [e]
    exact ⟨_, _, _, _, _, _, _, _, _, _, h1, by decide, .inl (by decide)⟩
/-- The same, for one that may be a term, too. -/
theorem at_y (s : ByteArray) (i j : Nat) (D : Int) (w : World) (hs : s.size ≤ 262144) (hi : i ≤ s.size) (hD : D = (i : Int)) (hn : nxt s i = j) (x y : Nat) (hxy : ∀ b, j < s.size → tkAt s j = .sign b → b.toNat ≠ x ∧ b.toNat ≠ y) :
    Calls Tryz.prog 20 #[.string s, .int .i64 D] w fun v w' => (∃ (kd sg k n : Int) (X Y : Nat) (S : ByteArray) (a b e : Int), v = .returned (.agg (tks kd sg k n X Y S a b (.slice none 0 0) j e)) ∧ (kd ≠ 1 ∨ (kd = 1 ∧ sg ≠ (x : Int) ∧ sg ≠ (y : Int)))) ∧ Only [] w w' := by
  subst hD hn
  refine (at_any s i w hs hi).mono fun v w' ⟨h1, h2⟩ => ⟨?_, h2⟩
  unfold AtE at h1
  split at h1
  · rename_i hj
    unfold TokE at h1
    split at h1
    · rename_i b hb
      obtain ⟨h3, h4⟩ := hxy b hj hb
      exact ⟨_, _, _, _, _, _, _, _, _, _, h1, .inr ⟨rfl, by omega, by omega⟩⟩
    · exact ⟨_, _, _, _, _, _, _, _, _, _, h1, .inl (by decide)⟩
    · obtain ⟨e', rfl⟩ := h1
      exact ⟨_, _, _, _, _, _, _, _, _, _, rfl, .inl (by decide)⟩
  · have := nxt_le s hi
    have e : nxt s i = s.size := by omega
    rw [e]
    exact ⟨_, _, _, _, _, _, _, _, _, _, h1, .inl (by decide)⟩
end Go.Proofs.YtlpafnibcmcjgaaGreatDoor
