/- The document's descent and the machine; what At tells, by what the token is. The document's Term: a row of whole terms in memory. -/
import Derived.Test.YtlilfmpikampgaaGreatDoorPDc
import Derived.Test.YtlilfmpikampgaaGreatDoorPMk
namespace Go.Proofs.YtlilfmpikampgaaGreatDoor
open Go.RowKit

/-- The sign that ends a tuple or a list. -/
def shB (k : Int) : Nat := if k = 8 then 125 else 93
theorem m_term {s : ByteArray} {i : Nat} {t : T} (hj : nxt s i < s.size) (h : tkAt s (nxt s i) = .term t) (stk : List Opn) : run s (.go stk 0) i = run s (put stk t) (fin s (nxt s i)) :=
  run_yes hj (by rw [h]; simp [mstep])
theorem m_end {s : ByteArray} {i : Nat} (hj : ¬ nxt s i < s.size) (hi : i ≤ s.size) (stk : List Opn) (md : Nat) : run s (.go stk md) i = .error (nxt s i) := by
  have := nxt_le s hi
  rw [run_end hj, show nxt s i = s.size by omega]
theorem m_bad {s : ByteArray} {i : Nat} (hj : nxt s i < s.size) (h : tkAt s (nxt s i) = .bad) (stk : List Opn) (md : Nat) : run s (.go stk md) i = .error (nxt s i) :=
  run_no hj (by rw [h]; rfl)
theorem m_sign0 {s : ByteArray} {i : Nat} {b : UInt8} (hj : nxt s i < s.size) (h : tkAt s (nxt s i) = .sign b) (hb : b.toNat ≠ 123 ∧ b.toNat ≠ 91) (stk : List Opn) : run s (.go stk 0) i = .error (nxt s i) :=
  run_no hj (by
    rw [h]
    simp only [mstep]
    rw [if_neg (by omega)]
    split
    · rfl
    · rfl)
theorem m_open {s : ByteArray} {i : Nat} {b : UInt8} (hj : nxt s i < s.size) (h : tkAt s (nxt s i) = .sign b) (hb : b.toNat = 123 ∨ b.toNat = 91) (stk : List Opn) : run s (.go stk 0) i = run s (.go (⟨kOf b, []⟩ :: stk) 1) (fin s (nxt s i)) :=
  run_yes hj (by
    rw [h]
    simp only [mstep]
    rw [if_pos hb]
    rfl)
theorem m_shut {s : ByteArray} {i : Nat} {b : UInt8} {k : Int} {l : List T} {md : Nat} (hj : nxt s i < s.size) (h : tkAt s (nxt s i) = .sign b) (hk : k = 8 ∨ k = 9) (hb : b.toNat = shB k) (hm : md ≠ 0) (stk : List Opn) : run s (.go (⟨k, l⟩ :: stk) md) i = run s (put stk (.tup k l)) (fin s (nxt s i)) :=
  run_yes hj (by
    have hb' : (b.toNat = 125 ∧ k = 8) ∨ (b.toNat = 93 ∧ k = 9) := by
      unfold shB at hb
      rcases hk with rfl | rfl
      · exact .inl ⟨by simpa using hb, rfl⟩
      · exact .inr ⟨by simpa using hb, rfl⟩
    have hk2 : k = kOf b := by
      unfold kOf
      rcases hb' with ⟨h1, h2⟩ | ⟨h1, h2⟩
      · rw [if_pos (.inr h1)]; exact h2
      · rw [if_neg (by omega)]; exact h2
    rw [h]
    simp only [mstep]
    rw [if_neg (by omega), if_neg (by omega), if_neg hm, if_pos hk2])
theorem kOf_sh {b : UInt8} {k : Int} (hk : k = 8 ∨ k = 9) (h : b.toNat ≠ shB k) (h1 : ¬ (b.toNat = 123 ∨ b.toNat = 91)) (h2 : b.toNat ≠ 44) (hs : isSg b = true) : k ≠ kOf b := by
  have h3 : b.toNat = 125 ∨ b.toNat = 93 := by
    simp only [isSg, Bool.or_eq_true, decide_eq_true_eq] at hs
    omega
  unfold shB at h
  unfold kOf
  rcases hk with rfl | rfl
  · rw [if_neg (by simp at h; omega)]; decide
  · rw [if_pos (by simp at h; omega)]; decide
/-- Behind what opens, if no sign that shuts it comes: as where a term must come. -/
theorem m_start {s : ByteArray} {i : Nat} {k : Int} (hi : i ≤ s.size) (hk : k = 8 ∨ k = 9) (h : ∀ b, nxt s i < s.size → tkAt s (nxt s i) = .sign b → isSg b = true ∧ b.toNat ≠ shB k) (l : List T) (stk : List Opn) : run s (.go (⟨k, l⟩ :: stk) 1) i = run s (.go (⟨k, l⟩ :: stk) 0) i := by
  by_cases hj : nxt s i < s.size
  · have hm : mstep (.go (⟨k, l⟩ :: stk) 1) (tkAt s (nxt s i)) = mstep (.go (⟨k, l⟩ :: stk) 0) (tkAt s (nxt s i)) := by
      cases ht : tkAt s (nxt s i) with
      | bad => rfl
      | term t => rfl
      | sign b =>
        obtain ⟨h1, h2⟩ := h b hj ht
        simp only [mstep]
        by_cases h3 : b.toNat = 123 ∨ b.toNat = 91
        · rw [if_pos h3, if_pos h3]; rfl
        · rw [if_neg h3, if_neg h3]
          by_cases h4 : b.toNat = 44
          · rw [if_pos h4, if_pos h4]; rfl
          · rw [if_neg h4, if_neg h4, if_neg (by decide), if_neg (kOf_sh hk h2 h3 h4 h1), if_pos trivial]
    cases hs : mstep (.go (⟨k, l⟩ :: stk) 0) (tkAt s (nxt s i)) with
    | none => rw [run_no hj hs, run_no hj (hm.trans hs)]
    | some σ => rw [run_yes hj hs, run_yes hj (hm.trans hs)]
  · rw [m_end hj hi, m_end hj hi]
theorem m_comma {s : ByteArray} {i : Nat} {b : UInt8} (hj : nxt s i < s.size) (h : tkAt s (nxt s i) = .sign b) (hb : b.toNat = 44) (stk : List Opn) : run s (.go stk 2) i = run s (.go stk 0) (fin s (nxt s i)) :=
  run_yes hj (by
    rw [h]
    simp only [mstep]
    rw [if_neg (by omega), if_pos hb]
    rfl)
/-- Behind a whole term neither what shuts nor a comma. -/
theorem m_other {s : ByteArray} {i : Nat} {k : Int} (hi : i ≤ s.size) (hk : k = 8 ∨ k = 9) (h : ∀ b, nxt s i < s.size → tkAt s (nxt s i) = .sign b → isSg b = true ∧ b.toNat ≠ shB k ∧ b.toNat ≠ 44) (l : List T) (stk : List Opn) : run s (.go (⟨k, l⟩ :: stk) 2) i = .error (nxt s i) := by
  by_cases hj : nxt s i < s.size
  · refine run_no hj ?_
    cases ht : tkAt s (nxt s i) with
    | bad => rfl
    | term t => rfl
    | sign b =>
      obtain ⟨h1, h2, h3⟩ := h b hj ht
      simp only [mstep]
      by_cases h4 : b.toNat = 123 ∨ b.toNat = 91
      · rw [if_pos h4]; rfl
      · rw [if_neg h4, if_neg h3, if_neg (by decide), if_neg (kOf_sh hk h2 h4 h3 h1)]
  · exact m_end hj hi _ _

/-! ### What At tells -/
theorem tk_sign_sg {s : ByteArray} {j : Nat} {b : UInt8} (h : tkAt s j = .sign b) : (lst s)[j]? = some b ∧ isSg b = true := by
  unfold tkAt at h
  split at h
  · cases h
  · rename_i c hc
    split at h
    · rename_i hs
      injection h with h
      subst h
      exact ⟨hc, hs⟩
    · split at h <;> cases h
theorem at_t (s : ByteArray) (i : Nat) (t : T) (D : Int) (w : World) (hs : s.size ≤ 262144) (hi : i ≤ s.size) (hD : D = (i : Int)) (hj : nxt s i < s.size) (h : tkAt s (nxt s i) = .term t) :
    Calls Tryz.prog 38 #[.string s, .int .i64 D] w fun v w' => v = .returned (.agg (tkT t (nxt s i) (fin s (nxt s i)))) ∧ Only [] w w' := by
  subst hD
  refine (at_any s i w hs hi).mono fun v w' ⟨h1, h2⟩ => ⟨?_, h2⟩
  unfold AtE at h1
  rw [if_pos hj] at h1
  unfold TokE at h1
  rw [h] at h1
  exact h1
theorem at_s (s : ByteArray) (i j : Nat) (b : UInt8) (D : Int) (w : World) (hs : s.size ≤ 262144) (hi : i ≤ s.size) (hD : D = (i : Int)) (hn : nxt s i = j) (hj : j < s.size) (h : tkAt s j = .sign b) :
    Calls Tryz.prog 38 #[.string s, .int .i64 D] w fun v w' => v = .returned (.agg (tks 1 b.toNat 0 0 0 0 ⟨#[]⟩ 0 0 (.slice none 0 0) j ((j : Int) + 1))) ∧ Only [] w w' := by
  subst hD hn
  refine (at_any s i w hs hi).mono fun v w' ⟨h1, h2⟩ => ⟨?_, h2⟩
  unfold AtE at h1
  rw [if_pos hj] at h1
  unfold TokE at h1
  rw [h] at h1
  exact h1
/-- Any token: its kind, its sign, where it stands. -/
theorem at_x (s : ByteArray) (i j : Nat) (D : Int) (w : World) (hs : s.size ≤ 262144) (hi : i ≤ s.size) (hD : D = (i : Int)) (hn : nxt s i = j) (x y : Nat) (hxy : ∀ b, j < s.size → tkAt s j = .sign b → b.toNat ≠ x ∧ b.toNat ≠ y) (ht : ∀ t, j < s.size → tkAt s j ≠ .term t) :
    Calls Tryz.prog 38 #[.string s, .int .i64 D] w fun v w' => (∃ (kd sg k n : Int) (X Y : Nat) (S : ByteArray) (a b e : Int), v = .returned (.agg (tks kd sg k n X Y S a b (.slice none 0 0) j e)) ∧ kd ≠ 2 ∧ (kd ≠ 1 ∨ (kd = 1 ∧ sg ≠ (x : Int) ∧ sg ≠ (y : Int)))) ∧ Only [] w w' := by
  subst hD hn
  refine (at_any s i w hs hi).mono fun v w' ⟨h1, h2⟩ => ⟨?_, h2⟩
  unfold AtE at h1
  split at h1
  · rename_i hj
    unfold TokE at h1
    split at h1
    · rename_i b hb
      obtain ⟨h3, h4⟩ := hxy b hj hb
      exact ⟨_, _, _, _, _, _, _, _, _, _, h1, by decide, .inr ⟨rfl, by omega, by omega⟩⟩
    · rename_i t htk
      exact absurd htk (ht t hj)
    · obtain ⟨e', rfl⟩ := h1
      exact ⟨_, _, _, _, _, _, _, _, _, _, rfl, by decide, .inl (by decide)⟩
  · have := nxt_le s hi
    have e : nxt s i = s.size := by omega
    rw [e]
    exact ⟨_, _, _, _, _, _, _, _, _, _, h1, by decide, .inl (by decide)⟩
/-- The same, for one that may be a term, too. -/
theorem at_y (s : ByteArray) (i j : Nat) (D : Int) (w : World) (hs : s.size ≤ 262144) (hi : i ≤ s.size) (hD : D = (i : Int)) (hn : nxt s i = j) (x y : Nat) (hxy : ∀ b, j < s.size → tkAt s j = .sign b → b.toNat ≠ x ∧ b.toNat ≠ y) :
    Calls Tryz.prog 38 #[.string s, .int .i64 D] w fun v w' => (∃ (kd sg k n : Int) (X Y : Nat) (S : ByteArray) (a b e : Int), v = .returned (.agg (tks kd sg k n X Y S a b (.slice none 0 0) j e)) ∧ (kd ≠ 1 ∨ (kd = 1 ∧ sg ≠ (x : Int) ∧ sg ≠ (y : Int)))) ∧ Only [] w w' := by
  subst hD hn
  refine (at_any s i w hs hi).mono fun v w' ⟨h1, h2⟩ => ⟨?_, h2⟩
  unfold AtE at h1
  split at h1
  · rename_i hj
    unfold TokE at h1
    split at h1
    · rename_i b hb
      obtain ⟨h3, h4⟩ := hxy b hj hb
      exact ⟨_, _, _, _, _, _, _, _, _, _, h1, .inr ⟨rfl, by omega, by omega⟩⟩
    · exact ⟨_, _, _, _, _, _, _, _, _, _, h1, .inl (by decide)⟩
    · obtain ⟨e', rfl⟩ := h1
      exact ⟨_, _, _, _, _, _, _, _, _, _, rfl, .inl (by decide)⟩
  · have := nxt_le s hi
    have e : nxt s i = s.size := by omega
    rw [e]
    exact ⟨_, _, _, _, _, _, _, _, _, _, h1, .inl (by decide)⟩
end Go.Proofs.YtlilfmpikampgaaGreatDoor

namespace Go.Proofs.YtlilfmpikampgaaGreatDoor
open Go.RowKit

/-- The terms of a tuple or a list that is read: they lie in a row of the call's own. -/
structure Out (w : World) (base : Nat) (F : Nat → Prop) (sl : Value) (l : List T) (xs : List Value) : Prop where
  le : base ≤ w.heap.size
  fr : ∀ b, F b → base ≤ b ∧ b < w.heap.size
  row : w.ownsRow base 27 7 sl l.length xs
  its : Its w F l xs
  free : ∀ b, sl.ownBlock = some b → ¬ F b
theorem Out.only {S : List Nat} {w w' : World} {base : Nat} {F : Nat → Prop} {sl : Value} {l : List T} {xs : List Value} (h : Out w base F sl l xs) (o : Only S w w') (hS : ∀ b ∈ S, b < base ∨ w.heap.size ≤ b) : Out w' base F sl l xs := by
  have hSF : ∀ b ∈ S, ¬ F b := fun b hb hf => by
    have := h.fr b hf
    rcases hS b hb with h1 | h1 <;> omega
  refine ⟨Nat.le_trans h.le o.size, fun b hb => ⟨(h.fr b hb).1, Nat.lt_of_lt_of_le (h.fr b hb).2 o.size⟩, Row.only h.row o fun g hg hm => ?_, Its.move (fun t sl => TV.only o hSF (fun _ h => h) t sl) h.its, h.free⟩
  have := Row.block h.row hg
  rcases hS g hm with h1 | h1 <;> omega
/-- What the append leaves: the row with one more. -/
theorem Out.snoc {w w1 : World} {base g : Nat} {F Fx : Nat → Prop} {sl sl' slx : Value} {l : List T} {xs : List Value} {t : T} (h : Out w base F sl l xs) (ht : TV w Fx t slx) (hFx : ∀ b, Fx b → base ≤ b ∧ b < w.heap.size ∧ sl.ownBlock ≠ some b)
    (o : Only sl.ownBlock.toList w w1) (hg : sl.ownBlock = some g ∨ w.heap.size ≤ g) (hb : sl'.ownBlock = some g) (hr : w1.ownsRow base 27 7 sl' (l.length + 1) (xs ++ (t.cs slx).toList)) :
    Out w1 base (fun b => F b ∨ Fx b) sl' (l ++ [t]) (xs ++ (t.cs slx).toList) := by
  have hS1 : ∀ b ∈ sl.ownBlock.toList, ¬ F b := fun b hb => h.free b (by simpa using hb)
  have hS2 : ∀ b ∈ sl.ownBlock.toList, ¬ Fx b := fun b hb hf => (hFx b hf).2.2 (by simpa using hb)
  refine ⟨Nat.le_trans h.le o.size, fun b hb => ?_, by rw [List.length_append, List.length_singleton]; exact hr, ?_, fun b hb2 hf => ?_⟩
  · rcases hb with hb | hb
    · exact ⟨(h.fr b hb).1, Nat.lt_of_lt_of_le (h.fr b hb).2 o.size⟩
    · exact ⟨(hFx b hb).1, Nat.lt_of_lt_of_le (hFx b hb).2.1 o.size⟩
  · exact Its.snoc (TV.only o hS2 (fun _ h => .inr h) t _ ht) (Its.move (fun t sl => TV.only o hS1 (fun _ h => .inl h) t sl) h.its)
  · rw [hb] at hb2
    injection hb2 with hb2
    subst hb2
    rcases hg with hg | hg
    · rcases hf with hf | hf
      · exact h.free g hg hf
      · exact (hFx g hf).2.2 hg
    · rcases hf with hf | hf
      · have := (h.fr g hf).2; omega
      · have := (hFx g hf).2.1; omega
theorem Out.whole {w : World} {base : Nat} {F : Nat → Prop} {sl : Value} {l : List T} {xs : List Value} (h : Out w base F sl l xs) (k : Int) : ∃ F' : Nat → Prop, (∀ b, F' b → base ≤ b ∧ b < w.heap.size) ∧ TV w F' (.tup k l) sl := by
  refine ⟨fun b => F b ∨ sl.ownBlock = some b, fun b hb => ?_, ?_⟩
  · rcases hb with hb | hb
    · exact h.fr b hb
    · exact Row.block h.row hb
  · simp only [TV]
    rcases h.row.2 with ⟨hv, h0⟩ | ⟨b, c, cur, hv, hb, hg', h3, h4, h5, h6⟩
    · exact ⟨none, 0, by rw [hv, h0], by omega, by omega, .inl (List.length_eq_zero_iff.1 h0)⟩
    · refine ⟨some ⟨b, 0, none⟩, c, hv, h3, h4, .inr ⟨b, 0, rfl, Bk.lt (t := 27) (cs := cur) hg', .inr (by rw [hv]; rfl), ?_⟩⟩
      have hrow := h.row
      subst hv
      refine Its.tvs (Its.move (fun t sl => TV.only (S := []) (Only.refl _ _) (by simp) (fun b hb => .inl hb) t sl) h.its) fun j u hj => ?_
      rw [Nat.zero_add]
      exact Row.cell hrow j u hj
theorem Out.none (w : World) {base : Nat} (h : base ≤ w.heap.size) : Out w base (fun _ => False) (.slice none 0 0) [] [] := ⟨h, fun _ h => h.elim, ⟨rfl, .inl ⟨rfl, rfl⟩⟩, rfl, fun _ _ h => h⟩
theorem Out.slice {w : World} {base : Nat} {F : Nat → Prop} {sl : Value} {l : List T} {xs : List Value} (h : Out w base F sl l xs) : ∃ A c, sl = .slice A l.length c := by
  rcases h.row.2 with ⟨h1, h0⟩ | ⟨g, cap, cur, h1, _⟩
  · exact ⟨Option.none, 0, by rw [h1, h0]⟩
  · exact ⟨_, _, h1⟩

/-! ### What Term answers -/
def TermE (s : ByteArray) (i : Nat) (w w' : World) (e : Ending) : Prop :=
  (∃ t n sl F, t.Good ∧ e = .returned (.tuple #[.agg (tcs t.k t.n t.x t.y t.S t.a t.b sl), .int .i64 (n : Nat), .int .i64 (-1)]) ∧ i < n ∧ n ≤ s.size ∧ (∀ b, F b → w.heap.size ≤ b ∧ b < w'.heap.size) ∧ TV w' F t sl ∧ ∀ stk, run s (.go stk 0) i = run s (put stk t) n) ∨
  (∃ bad : Nat, e = .returned (.tuple #[.agg Z7, .int .i64 0, .int .i64 bad]) ∧ ∀ stk, run s (.go stk 0) i = .error bad)
/-- The term of a token may be. -/
theorem tk_good {s : ByteArray} {j : Nat} {t : T} (hs : s.size ≤ 262144) (h : tkAt s j = .term t) : t.Good ∧ ∀ k l, t ≠ .tup k l := by
  unfold tkAt at h
  split at h
  · cases h
  · split at h
    · cases h
    · split at h
      · rename_i u hu
        injection h with h
        subst h
        have := lf_raw (s.extract j (fin s j))
        rw [hu] at this
        cases hr : rawL (s.extract j (fin s j)) with
        | none => rw [hr] at this; cases this
        | some v =>
          rw [hr] at this
          simp only [Option.bind_some] at this
          split at this
          · injection this with this
            subst this
            exact raw_good (ext_le hs) hr
          · cases this
      · cases h
theorem put7 {W W3 : World} {b : Nat} {t2 : TypeId} {q0 q1 q2 q3 q4 q5 q6 v0 v1 v2 v3 v4 v5 v6 : Value} (B2 : Bk W b t2 #[q0, q1, q2, q3, q4, q5, q6]) (hw : W3 = ((((((W.setCell ⟨b, 0, none⟩ (v0)).setCell ⟨b, 1, none⟩ (v1)).setCell ⟨b, 2, none⟩ (v2)).setCell ⟨b, 3, none⟩ (v3)).setCell ⟨b, 4, none⟩ (v4)).setCell ⟨b, 5, none⟩ (v5)).setCell ⟨b, 6, none⟩ (v6)) : Bk W3 b t2 #[v0, v1, v2, v3, v4, v5, v6] ∧ Only [b] W W3 := by
  have b1 := B2.setTo 0 v0 #[v0, q1, q2, q3, q4, q5, q6] rfl
  have b2 := b1.setTo 1 v1 #[v0, v1, q2, q3, q4, q5, q6] rfl
  have b3 := b2.setTo 2 v2 #[v0, v1, v2, q3, q4, q5, q6] rfl
  have b4 := b3.setTo 3 v3 #[v0, v1, v2, v3, q4, q5, q6] rfl
  have b5 := b4.setTo 4 v4 #[v0, v1, v2, v3, v4, q5, q6] rfl
  have b6 := b5.setTo 5 v5 #[v0, v1, v2, v3, v4, v5, q6] rfl
  have b7 := b6.setTo 6 v6 #[v0, v1, v2, v3, v4, v5, v6] rfl
  have hm : b ∈ [b] ∨ W.heap.size ≤ b := .inl (by simp)
  subst hw
  exact ⟨b7, ((((((((Only.refl [b] W).set (p := ⟨b, 0, none⟩) hm v0).set (p := ⟨b, 1, none⟩) hm v1).set (p := ⟨b, 2, none⟩) hm v2).set (p := ⟨b, 3, none⟩) hm v3).set (p := ⟨b, 4, none⟩) hm v4).set (p := ⟨b, 5, none⟩) hm v5).set (p := ⟨b, 6, none⟩) hm v6)⟩
theorem app_facts {w3 w4 : World} {b9 Bs g cap' : Nat} {k : Int} {F Fx : Nat → Prop} {sl slt : Value} {l : List T} {xs : List Value} {t : T} {o1 o2 : Obj} (h9 : Bk w3 b9 27 (tcs k 0 0 0 ⟨#[]⟩ 0 0 sl)) (hO : Out w3 Bs F sl l xs) (hlt : b9 < Bs) (ht : TV w3 Fx t slt) (hFx : ∀ b, Fx b → Bs ≤ b ∧ b < w3.heap.size ∧ sl.ownBlock ≠ some b)
    (hown : w4.ownsRow Bs 27 7 (.slice (some ⟨g, 0, none⟩) (l.length + 1) cap') (l.length + 1) (xs ++ (t.cs slt).toList)) (hgrow : ((w3.alloc o1).alloc o2).grownBy w4 sl.ownBlock) (hat : sl.ownBlock = some g ∨ g = ((w3.alloc o1).alloc o2).heap.size) :
    Bk w4 b9 27 (tcs k 0 0 0 ⟨#[]⟩ 0 0 sl) ∧ Out w4 Bs (fun b => F b ∨ Fx b) (.slice (some ⟨g, 0, none⟩) (l.length + 1) cap') (l ++ [t]) (xs ++ (t.cs slt).toList) ∧ ∃ S, Only S w3 w4 ∧ ∀ b ∈ S, Bs ≤ b := by
  have h0 : Only [] w3 ((w3.alloc o1).alloc o2) := ((Only.refl [] w3).alloc o1).alloc o2
  have h1 := Only.of_grown hgrow
  have hS : ∀ b ∈ sl.ownBlock.toList, Bs ≤ b := fun b hb => (Row.block hO.row (g := b) (by simpa using hb)).1
  have h2 : Only sl.ownBlock.toList w3 w4 := (h0.more (by simp)).trans h1 (fun i hi => .inl hi)
  refine ⟨h9.only h2 fun hm => by have := hS _ hm; omega, Out.snoc (hO.only h0 (by simp)) (ht.same h0) (fun b hb => ⟨(hFx b hb).1, Nat.lt_of_lt_of_le (hFx b hb).2.1 h0.size, (hFx b hb).2.2⟩) h1 ?_ rfl hown, _, h2, hS⟩
  rcases hat with h | h
  · exact .inl h
  · exact .inr (by rw [h]; exact Nat.le_refl _)
theorem put11 {W W3 : World} {b : Nat} {t2 : TypeId} {q0 q1 q2 q3 q4 q5 q6 q7 q8 q9 q10 v0 v1 v2 v3 v4 v5 v6 v7 v8 v9 v10 : Value} (B2 : Bk W b t2 #[q0, q1, q2, q3, q4, q5, q6, q7, q8, q9, q10])
    (hw : W3 = ((((((((((W.setCell ⟨b, 0, none⟩ v0).setCell ⟨b, 1, none⟩ v1).setCell ⟨b, 2, none⟩ v2).setCell ⟨b, 3, none⟩ v3).setCell ⟨b, 4, none⟩ v4).setCell ⟨b, 5, none⟩ v5).setCell ⟨b, 6, none⟩ v6).setCell ⟨b, 7, none⟩ v7).setCell ⟨b, 8, none⟩ v8).setCell ⟨b, 9, none⟩ v9).setCell ⟨b, 10, none⟩ v10) :
    Bk W3 b t2 #[v0, v1, v2, v3, v4, v5, v6, v7, v8, v9, v10] ∧ Only [b] W W3 := by
  have b1 := B2.setTo 0 v0 #[v0, q1, q2, q3, q4, q5, q6, q7, q8, q9, q10] rfl
  have b2 := b1.setTo 1 v1 #[v0, v1, q2, q3, q4, q5, q6, q7, q8, q9, q10] rfl
  have b3 := b2.setTo 2 v2 #[v0, v1, v2, q3, q4, q5, q6, q7, q8, q9, q10] rfl
  have b4 := b3.setTo 3 v3 #[v0, v1, v2, v3, q4, q5, q6, q7, q8, q9, q10] rfl
  have b5 := b4.setTo 4 v4 #[v0, v1, v2, v3, v4, q5, q6, q7, q8, q9, q10] rfl
  have b6 := b5.setTo 5 v5 #[v0, v1, v2, v3, v4, v5, q6, q7, q8, q9, q10] rfl
  have b7 := b6.setTo 6 v6 #[v0, v1, v2, v3, v4, v5, v6, q7, q8, q9, q10] rfl
  have b8 := b7.setTo 7 v7 #[v0, v1, v2, v3, v4, v5, v6, v7, q8, q9, q10] rfl
  have b9 := b8.setTo 8 v8 #[v0, v1, v2, v3, v4, v5, v6, v7, v8, q9, q10] rfl
  have b10 := b9.setTo 9 v9 #[v0, v1, v2, v3, v4, v5, v6, v7, v8, v9, q10] rfl
  have b11 := b10.setTo 10 v10 #[v0, v1, v2, v3, v4, v5, v6, v7, v8, v9, v10] rfl
  have hm : b ∈ [b] ∨ W.heap.size ≤ b := .inl (by simp)
  subst hw
  exact ⟨b11, (((((((((((Only.refl [b] W).set (p := ⟨b, 0, none⟩) hm v0).set (p := ⟨b, 1, none⟩) hm v1).set (p := ⟨b, 2, none⟩) hm v2).set (p := ⟨b, 3, none⟩) hm v3).set (p := ⟨b, 4, none⟩) hm v4).set (p := ⟨b, 5, none⟩) hm v5).set (p := ⟨b, 6, none⟩) hm v6).set (p := ⟨b, 7, none⟩) hm v7).set (p := ⟨b, 8, none⟩) hm v8).set (p := ⟨b, 9, none⟩) hm v9).set (p := ⟨b, 10, none⟩) hm v10⟩
end Go.Proofs.YtlilfmpikampgaaGreatDoor
