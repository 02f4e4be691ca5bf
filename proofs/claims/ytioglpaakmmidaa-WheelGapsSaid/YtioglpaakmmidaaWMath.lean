/- Wheels, plainly: which lists are wheels, who is next, how long a class waits, how often it is served. Nothing here speaks of the program. -/
import Derived.Test.YtioglpaakmmidaaG
namespace Go.Proofs.Ytioglpaakmmidaa

def IsW (l : List Int) : Prop := l.length ≤ 64 ∧ (∀ x ∈ l, 0 ≤ x ∧ x < 3) ∧ (0 : Int) ∈ l ∧ (1 : Int) ∈ l ∧ (2 : Int) ∈ l
instance (l : List Int) : Decidable (IsW l) := by unfold IsW; infer_instance
def chk (l : List Int) : Int := if IsW l then 0 else 20
def chkHand (l : List Int) (hand : Int) : Int := if IsW l then (if 0 ≤ hand ∧ hand < l.length then 0 else 1) else 20

def st (l : List Int) (i : Nat) : Array Value := #[.bool (decide ((0 : Int) ∈ l.take i)), .bool (decide ((1 : Int) ∈ l.take i)), .bool (decide ((2 : Int) ∈ l.take i))]
theorem st_zero (l : List Int) : st l 0 = #[.bool false, .bool false, .bool false] := by simp [st]
theorem st_step {l : List Int} {i k : Nat} (hi : i < l.length) (hk : k < 3) (e : l.getD i 0 = (k : Int)) : (st l i).setIfInBounds k (.bool true) = st l (i + 1) := by
  have h : k = 0 ∨ k = 1 ∨ k = 2 := by omega
  unfold st
  rw [take_snoc hi, e]
  rcases h with rfl | rfl | rfl <;> simp
theorem st_full (l : List Int) {i : Nat} (h : l.length ≤ i) {k : Nat} (hk : k < 3) : (st l i)[k]? = some (.bool (decide ((k : Int) ∈ l))) := by
  have h3 : k = 0 ∨ k = 1 ∨ k = 2 := by omega
  unfold st
  rw [List.take_of_length_le h]
  rcases h3 with rfl | rfl | rfl <;> simp
theorem st_some (l : List Int) (i : Nat) {k : Nat} (hk : k < 3) : ∃ u, (st l i)[k]? = some u := by
  have h3 : k = 0 ∨ k = 1 ∨ k = 2 := by omega
  unfold st
  rcases h3 with rfl | rfl | rfl <;> exact ⟨_, rfl⟩
theorem isW_of {l : List Int} (h1 : l.length ≤ 64) (h2 : ∀ j, j < l.length → 0 ≤ l.getD j 0 ∧ l.getD j 0 < 3) (h3 : ∀ k : Nat, k < 3 → (k : Int) ∈ l) : IsW l :=
  ⟨h1, fun x hx => by
    obtain ⟨k, hk, rfl⟩ := mem_getD hx
    exact h2 k hk, h3 0 (by omega), h3 1 (by omega), h3 2 (by omega)⟩
theorem IsW.at_ {l : List Int} (h : IsW l) {j : Nat} (hj : j < l.length) : 0 ≤ l.getD j 0 ∧ l.getD j 0 < 3 := h.2.1 _ (getD_mem hj)
theorem IsW.has {l : List Int} (h : IsW l) {k : Nat} (hk : k < 3) : (k : Int) ∈ l := by
  have h3 : k = 0 ∨ k = 1 ∨ k = 2 := by omega
  rcases h3 with rfl | rfl | rfl
  · exact h.2.2.1
  · exact h.2.2.2.1
  · exact h.2.2.2.2
theorem IsW.pos {l : List Int} (h : IsW l) : 0 < l.length := List.length_pos_of_mem h.2.2.1
theorem chk_yes {l : List Int} (h : IsW l) : chk l = 0 := if_pos h
theorem chk_no {l : List Int} (h : ¬ IsW l) : chk l = 20 := if_neg h

/- who is served -/
def bsel (b0 b1 b2 : Bool) (k : Nat) : Bool := if k = 0 then b0 else if k = 1 then b1 else b2
theorem bsel_at (b0 b1 b2 : Bool) {k : Nat} (hk : k < 3) : (#[.bool b0, .bool b1, .bool b2] : Array Value)[k]? = some (.bool (bsel b0 b1 b2 k)) := by
  have h3 : k = 0 ∨ k = 1 ∨ k = 2 := by omega
  rcases h3 with rfl | rfl | rfl <;> rfl
/-- The first class from x on that waits. -/
def pickC (b0 b1 b2 : Bool) (x : Nat) : Option Nat := if bsel b0 b1 b2 (x % 3) then some (x % 3) else if bsel b0 b1 b2 ((x + 1) % 3) then some ((x + 1) % 3) else if bsel b0 b1 b2 ((x + 2) % 3) then some ((x + 2) % 3) else none
def nextR (l : List Int) (hand : Int) (b0 b1 b2 : Bool) : Int × Int × Int :=
  if chkHand l hand = 0 then
    match pickC b0 b1 b2 (l.getD hand.toNat 0).toNat with
    | some c => ((c : Int), (((hand.toNat + 1) % l.length : Nat) : Int), 0)
    | none => (0, 0, 3)
  else (0, 0, chkHand l hand)
theorem pickC_at {b0 b1 b2 : Bool} {x k : Nat} (hk : k < 3) (h : ∀ j, j < k → bsel b0 b1 b2 ((x + j) % 3) = false) (hy : bsel b0 b1 b2 ((x + k) % 3) = true) : pickC b0 b1 b2 x = some ((x + k) % 3) := by
  have h3 : k = 0 ∨ k = 1 ∨ k = 2 := by omega
  unfold pickC
  rcases h3 with rfl | rfl | rfl
  · rw [Nat.add_zero] at hy
    rw [if_pos hy, Nat.add_zero]
  · have h0 := h 0 (by omega)
    rw [Nat.add_zero] at h0
    rw [if_neg (by simp [h0]), if_pos hy]
  · have h0 := h 0 (by omega)
    have h1 := h 1 (by omega)
    rw [Nat.add_zero] at h0
    rw [if_neg (by simp [h0]), if_neg (by simp [h1]), if_pos hy]
theorem pickC_none {b0 b1 b2 : Bool} {x : Nat} (h : ∀ j, j < 3 → bsel b0 b1 b2 ((x + j) % 3) = false) : pickC b0 b1 b2 x = none := by
  have h0 := h 0 (by omega)
  have h1 := h 1 (by omega)
  have h2 := h 2 (by omega)
  rw [Nat.add_zero] at h0
  unfold pickC
  rw [if_neg (by simp [h0]), if_neg (by simp [h1]), if_neg (by simp [h2])]

/- how long a class waits -/
/-- From hand h on, class c's slot is met after just n turns. -/
structure Waits (l : List Int) (c : Int) (h n : Nat) : Prop where
  one : 1 ≤ n
  hit : l.getD ((h + n - 1) % l.length) 0 = c
  no : ∀ m, 1 ≤ m → m < n → l.getD ((h + m - 1) % l.length) 0 ≠ c
theorem Waits.uniq {l : List Int} {c : Int} {h n m : Nat} (a : Waits l c h n) (b : Waits l c h m) : n = m := by
  rcases Nat.lt_trichotomy n m with hlt | he | hgt
  · exact absurd a.hit (b.no n a.one hlt)
  · exact he
  · exact absurd b.hit (a.no m b.one hgt)
theorem waits_ex {l : List Int} {c : Int} (h : c ∈ l) {hd : Nat} (hh : hd < l.length) : ∃ n, n ≤ l.length ∧ Waits l c hd n := by
  obtain ⟨k, hk, e⟩ := mem_getD h
  -- some place is met
  have h0 : ∃ m, 1 ≤ m ∧ m ≤ l.length ∧ l.getD ((hd + m - 1) % l.length) 0 = c := by
    by_cases hle : hd ≤ k
    · refine ⟨k - hd + 1, by omega, by omega, ?_⟩
      rw [show hd + (k - hd + 1) - 1 = k by omega, Nat.mod_eq_of_lt hk]
      exact e
    · refine ⟨k + l.length - hd + 1, by omega, by omega, ?_⟩
      rw [show hd + (k + l.length - hd + 1) - 1 = k + l.length by omega, Nat.add_mod_right, Nat.mod_eq_of_lt hk]
      exact e
  obtain ⟨m, hm⟩ := h0
  have key : ∀ N m, m ≤ N → 1 ≤ m → l.getD ((hd + m - 1) % l.length) 0 = c → ∃ n, n ≤ m ∧ Waits l c hd n := by
    intro N
    induction N with
    | zero => intro m h1 h2; omega
    | succ N ih =>
      intro m h1 h2 h3
      by_cases hex : ∃ j, 1 ≤ j ∧ j < m ∧ l.getD ((hd + j - 1) % l.length) 0 = c
      · obtain ⟨j, h4, h5, h6⟩ := hex
        obtain ⟨n, h7, h8⟩ := ih j (by omega) h4 h6
        exact ⟨n, by omega, h8⟩
      · exact ⟨m, Nat.le_refl _, h2, h3, fun j h4 h5 h6 => hex ⟨j, h4, h5, h6⟩⟩
  obtain ⟨n, h1, h2⟩ := key m m (Nat.le_refl _) hm.1 hm.2.2
  exact ⟨n, by omega, h2⟩
/-- g is the greatest wait over all hands below i. -/
structure Most (l : List Int) (c : Int) (i g : Nat) : Prop where
  up : ∀ h n, h < i → Waits l c h n → n ≤ g
  top : g = 0 ∨ ∃ h n, h < l.length ∧ Waits l c h n ∧ n = g
theorem most_uniq {l : List Int} {c : Int} {g g' : Nat} (a : Most l c l.length g) (b : Most l c l.length g') : g = g' := by
  have h1 : g ≤ g' := by
    rcases a.top with h | ⟨h, n, h1, h2, h3⟩
    · omega
    · rw [← h3]
      exact b.up h n h1 h2
  have h2 : g' ≤ g := by
    rcases b.top with h | ⟨h, n, h1, h2, h3⟩
    · omega
    · rw [← h3]
      exact a.up h n h1 h2
  omega
theorem most_zero (l : List Int) (c : Int) : Most l c 0 0 := ⟨fun h _ hh => absurd hh (Nat.not_lt_zero h), .inl rfl⟩
theorem Most.step {l : List Int} {c : Int} {i g n : Nat} (m : Most l c i g) (hi : i < l.length) (hw : Waits l c i n) : Most l c (i + 1) (max g n) := by
  refine ⟨fun h k hh hk => ?_, ?_⟩
  · by_cases e : h = i
    · subst e
      rw [hk.uniq hw]
      omega
    · have := m.up h k (by omega) hk
      omega
  · rcases Nat.le_total g n with h | h
    · right
      exact ⟨i, n, hi, hw, by omega⟩
    · rw [Nat.max_eq_left h]
      exact m.top
theorem most_ex {l : List Int} {c : Int} (h : c ∈ l) : ∀ i, i ≤ l.length → ∃ g, Most l c i g
  | 0, _ => ⟨0, most_zero l c⟩
  | i + 1, hi => by
    obtain ⟨g, m⟩ := most_ex h i (by omega)
    obtain ⟨n, _, hw⟩ := waits_ex h (show i < l.length by omega)
    exact ⟨_, m.step (by omega) hw⟩
open Classical in
noncomputable def gap (l : List Int) (c : Int) : Nat := if h : ∃ g, Most l c l.length g then h.choose else 0
theorem gap_most {l : List Int} {c : Int} (h : c ∈ l) : Most l c l.length (gap l c) := by
  have hx := most_ex h l.length (Nat.le_refl _)
  unfold gap
  rw [dif_pos hx]
  exact hx.choose_spec
theorem gap_eq {l : List Int} {c : Int} {g : Nat} (h : c ∈ l) (m : Most l c l.length g) : gap l c = g := most_uniq (gap_most h) m
theorem gap_le {l : List Int} {c : Int} (h : c ∈ l) : gap l c ≤ l.length := by
  rcases (gap_most h).top with h0 | ⟨hd, n, h1, h2, h3⟩
  · omega
  · obtain ⟨k, hk, hw⟩ := waits_ex h h1
    rw [← h3, h2.uniq hw]
    exact hk
theorem gap_pos {l : List Int} {c : Int} (h : c ∈ l) : 1 ≤ gap l c := by
  have hl : 0 < l.length := List.length_pos_of_mem h
  obtain ⟨k, hk, hw⟩ := waits_ex h hl
  have := (gap_most h).up 0 k hl hw
  have := hw.one
  omega

/-- The program's way: turns since the last hit, the longest so far. -/
structure Longs (l : List Int) (c : Int) (i longest turns : Nat) : Prop where
  le : turns ≤ i
  no : ∀ j, i - turns ≤ j → j < i → l.getD (j % l.length) 0 ≠ c
  last : turns = i ∨ l.getD ((i - turns - 1) % l.length) 0 = c
  up : ∀ h n, h + n ≤ i → Waits l c h n → n ≤ longest
  top : longest = 0 ∨ ∃ h n, h < l.length ∧ Waits l c h n ∧ n = longest
  small : longest ≤ i
theorem longs_zero (l : List Int) (c : Int) : Longs l c 0 0 0 := ⟨Nat.le_refl _, fun j _ hj => absurd hj (Nat.not_lt_zero j), .inl rfl, fun h n hh hw => (by have := hw.one; omega), .inl rfl, Nat.le_refl _⟩
theorem waits_turn {l : List Int} {c : Int} {h n : Nat} (w : Waits l c h n) : Waits l c (h % l.length) n := by
  have e : ∀ m, 1 ≤ m → (h % l.length + m - 1) % l.length = (h + m - 1) % l.length := by
    intro m hm
    rw [show h % l.length + m - 1 = h % l.length + (m - 1) by omega, Nat.mod_add_mod, show h + (m - 1) = h + m - 1 by omega]
  exact ⟨w.one, by rw [e n w.one]; exact w.hit, fun m h1 h2 => by rw [e m h1]; exact w.no m h1 h2⟩
theorem Longs.hit {l : List Int} {c : Int} {i g t : Nat} (hl : 0 < l.length) (L : Longs l c i g t) (e : l.getD (i % l.length) 0 = c) : Longs l c (i + 1) (max g (t + 1)) 0 := by
  have hle := L.le
  have hw : Waits l c (i - t) (t + 1) := by
    refine ⟨by omega, ?_, fun m h1 h2 => ?_⟩
    · rw [show i - t + (t + 1) - 1 = i by omega]
      exact e
    · exact L.no _ (by omega) (by omega)
  refine ⟨by omega, fun j h1 h2 => by omega, .inr (by rw [show i + 1 - 0 - 1 = i by omega]; exact e), fun h n hh hw' => ?_, ?_, ?_⟩
  · by_cases hlt : h + n ≤ i
    · have := L.up h n hlt hw'
      omega
    · have hn := hw'.one
      have hge : n ≤ t + 1 := by
        apply Nat.le_of_not_lt
        intro hgt
        rcases L.last with h5 | h5
        · omega
        · refine hw'.no (i - t - h) (by omega) (by omega) ?_
          rw [show h + (i - t - h) - 1 = i - t - 1 by omega]
          exact h5
      omega
  · rcases Nat.le_total g (t + 1) with h | h
    · right
      exact ⟨(i - t) % l.length, t + 1, Nat.mod_lt _ hl, waits_turn hw, by omega⟩
    · rw [Nat.max_eq_left h]
      exact L.top
  · have := L.small
    omega
theorem Longs.miss {l : List Int} {c : Int} {i g t : Nat} (L : Longs l c i g t) (e : l.getD (i % l.length) 0 ≠ c) : Longs l c (i + 1) g (t + 1) := by
  have hle := L.le
  refine ⟨by omega, fun j h1 h2 => ?_, ?_, fun h n hh hw' => ?_, L.top, by have := L.small; omega⟩
  · by_cases hj : j = i
    · subst hj
      exact e
    · exact L.no j (by omega) (by omega)
  · rcases L.last with h | h
    · left
      omega
    · right
      rw [show i + 1 - (t + 1) - 1 = i - t - 1 by omega]
      exact h
  · by_cases hlt : h + n ≤ i
    · exact L.up h n hlt hw'
    · have hn := hw'.one
      have h6 := hw'.hit
      rw [show h + n - 1 = i by omega] at h6
      exact absurd h6 e
theorem Longs.most {l : List Int} {c : Int} {g t : Nat} (h : c ∈ l) (L : Longs l c (2 * l.length) g t) : g = gap l c :=
  (gap_eq h ⟨fun hd n hh hw => (by
    obtain ⟨k, hk, hw2⟩ := waits_ex h hh
    rw [hw.uniq hw2]
    exact L.up hd k (by omega) hw2), L.top⟩).symm
noncomputable def gapR (l : List Int) (c : Int) : Int × Int := if IsW l then (if 0 ≤ c ∧ c < 3 then ((gap l c : Int), 0) else (0, 1)) else (0, 20)

/- how often each is served -/
def one (x c : Int) : Nat := if x = c then 1 else 0
/-- How many of the next t turns' slots are c's. -/
def cnt (l : List Int) (h : Nat) (c : Int) : Nat → Nat
  | 0 => 0
  | t + 1 => cnt l h c t + one (l.getD ((h + t) % l.length) 0) c
theorem cnt_add (l : List Int) (h : Nat) (c : Int) (a : Nat) : ∀ b, cnt l h c (a + b) = cnt l h c a + cnt l ((h + a) % l.length) c b
  | 0 => rfl
  | b + 1 => by
    rw [show a + (b + 1) = (a + b) + 1 by omega]
    simp only [cnt]
    rw [cnt_add l h c a b, Nat.mod_add_mod, show h + (a + b) = h + a + b by omega]
    omega
theorem cnt_mod (l : List Int) (h : Nat) (c : Int) : ∀ t, cnt l (h % l.length) c t = cnt l h c t
  | 0 => rfl
  | t + 1 => by
    simp only [cnt]
    rw [cnt_mod l h c t, Nat.mod_add_mod]
theorem cnt_le (l : List Int) (h : Nat) (c : Int) : ∀ t, cnt l h c t ≤ t
  | 0 => Nat.le_refl _
  | t + 1 => by
    have := cnt_le l h c t
    simp only [cnt, one]
    split <;> omega
theorem cnt_mono (l : List Int) (h : Nat) (c : Int) {a b : Nat} (hab : a ≤ b) : cnt l h c a ≤ cnt l h c b := by
  obtain ⟨k, rfl⟩ := Nat.le.dest hab
  rw [cnt_add]
  omega
/-- a round begun one later counts the same -/
theorem cnt_round (l : List Int) (c : Int) : ∀ h, cnt l h c l.length = cnt l 0 c l.length
  | 0 => rfl
  | h + 1 => by
    rw [← cnt_round l c h]
    by_cases hl : l.length = 0
    · rw [hl]; rfl
    · have h1 := cnt_add l h c 1 l.length
      have h2 := cnt_add l h c l.length 1
      rw [cnt_mod] at h1 h2
      rw [show 1 + l.length = l.length + 1 by omega] at h1
      have h3 : cnt l (h + l.length) c 1 = cnt l h c 1 := by
        simp only [cnt, Nat.add_zero, Nat.add_mod_right]
      omega
theorem cnt_rounds (l : List Int) (h : Nat) (c : Int) : ∀ q, cnt l h c (q * l.length) = q * cnt l 0 c l.length
  | 0 => by simp [cnt]
  | q + 1 => by
    rw [Nat.succ_mul, cnt_add, cnt_rounds l h c q, cnt_round l c ((h + q * l.length) % l.length), Nat.succ_mul]
theorem cnt_split (l : List Int) (h : Nat) (c : Int) (t : Nat) : cnt l h c t = (t / l.length) * cnt l 0 c l.length + cnt l h c (t % l.length) := by
  have e := Nat.div_add_mod t l.length
  rw [Nat.mul_comm] at e
  have h1 := cnt_add l h c (t / l.length * l.length) (t % l.length)
  rw [e, cnt_rounds, cnt_mod] at h1
  rw [h1]
  congr 1
  rw [← cnt_mod l (h + _), Nat.add_mul_mod_self_right, cnt_mod]
theorem cnt_all {l : List Int} (hw : IsW l) (h : Nat) : ∀ t, cnt l h 0 t + cnt l h 1 t + cnt l h 2 t = t
  | 0 => rfl
  | t + 1 => by
    have := cnt_all hw h t
    have h1 := hw.at_ (Nat.mod_lt (h + t) hw.pos)
    have h2 : l.getD ((h + t) % l.length) 0 = 0 ∨ l.getD ((h + t) % l.length) 0 = 1 ∨ l.getD ((h + t) % l.length) 0 = 2 := by omega
    simp only [cnt, one]
    rcases h2 with h2 | h2 | h2 <;> rw [h2] <;> simp <;> omega
/-- The document's first loop: the whole rounds of the first i slots. -/
def acc1 (l : List Int) (q i : Nat) (c : Int) : Nat := q * cnt l 0 c i
theorem acc1_le (l : List Int) {q i : Nat} (h : Nat) (c : Int) (t : Nat) (hi : i ≤ l.length) (hq : q = t / l.length) : acc1 l q i c ≤ t := by
  unfold acc1
  have h1 := cnt_le l h c t
  rw [cnt_split, ← hq] at h1
  have h2 : q * cnt l 0 c i ≤ q * cnt l 0 c l.length := Nat.mul_le_mul_left q (cnt_mono l 0 c hi)
  omega
theorem acc1_step (l : List Int) {q i : Nat} (c : Int) (hi : i < l.length) : acc1 l q (i + 1) c = acc1 l q i c + (if l.getD i 0 = c then q else 0) := by
  unfold acc1
  simp only [cnt, one]
  rw [Nat.zero_add, Nat.mod_eq_of_lt hi, Nat.mul_add]
  split <;> simp
/-- The program's loop: of the first i slots the whole rounds, and one more for those that the rest meets. -/
def acc2 (l : List Int) (q r h : Nat) (c : Int) : Nat → Nat
  | 0 => 0
  | i + 1 => acc2 l q r h c i + (if l.getD i 0 = c then q + (if (i + l.length - h) % l.length < r then 1 else 0) else 0)
theorem acc2_split (l : List Int) (q r h : Nat) (c : Int) : ∀ i, i ≤ l.length → acc2 l q r h c i = acc1 l q i c + acc2 l 0 r h c i
  | 0, _ => by simp [acc2, acc1, cnt]
  | i + 1, hi => by
    have := acc2_split l q r h c i (by omega)
    rw [acc1_step l c (by omega)]
    simp only [acc2]
    rw [this]
    by_cases e : l.getD i 0 = c
    · simp only [if_pos e]
      omega
    · simp only [if_neg e]
      omega
theorem acc2_zero (l : List Int) (h : Nat) (c : Int) : ∀ i, acc2 l 0 0 h c i = 0
  | 0 => rfl
  | i + 1 => by
    simp only [acc2]
    rw [acc2_zero l h c i]
    split <;> simp
theorem acc2_more (l : List Int) {r h : Nat} (c : Int) (hh : h < l.length) (hr : r < l.length) : ∀ i, i ≤ l.length → acc2 l 0 (r + 1) h c i = acc2 l 0 r h c i + (if (h + r) % l.length < i then one (l.getD ((h + r) % l.length) 0) c else 0)
  | 0, _ => by simp [acc2]
  | i + 1, hi => by
    have ih := acc2_more l c hh hr i (by omega)
    simp only [acc2]
    rw [ih]
    -- i is met as the r-th just if it is (h + r) % n
    have key : (i + l.length - h) % l.length = r ↔ i = (h + r) % l.length := by
      constructor
      · intro e
        rw [← e]
        rw [show h + (i + l.length - h) % l.length = (i + l.length - h) % l.length + h by omega, Nat.mod_add_mod, show i + l.length - h + h = i + l.length by omega, Nat.add_mod_right, Nat.mod_eq_of_lt (by omega)]
      · intro e
        rw [e]
        by_cases h2 : h + r < l.length
        · rw [Nat.mod_eq_of_lt h2, show h + r + l.length - h = r + l.length by omega, Nat.add_mod_right, Nat.mod_eq_of_lt hr]
        · rw [show h + r = (h + r - l.length) + l.length by omega, Nat.add_mod_right, Nat.mod_eq_of_lt (show h + r - l.length < l.length by omega), show h + r - l.length + l.length - h = r by omega, Nat.mod_eq_of_lt hr]
    by_cases e : l.getD i 0 = c
    · simp only [if_pos e, Nat.zero_add]
      by_cases e2 : i = (h + r) % l.length
      · have e3 := key.2 e2
        rw [e3, ← e2]
        have h1 : one (l.getD i 0) c = 1 := if_pos e
        rw [h1]
        simp
      · have e3 : ¬ (i + l.length - h) % l.length = r := fun h => e2 (key.1 h)
        by_cases e4 : (h + r) % l.length < i
        · rw [if_pos e4, if_pos (show (h + r) % l.length < i + 1 by omega)]
          by_cases e5 : (i + l.length - h) % l.length < r
          · rw [if_pos e5, if_pos (by omega)]
            omega
          · rw [if_neg e5, if_neg (by omega)]
            omega
        · rw [if_neg e4, if_neg (show ¬ (h + r) % l.length < i + 1 by omega)]
          by_cases e5 : (i + l.length - h) % l.length < r
          · rw [if_pos e5, if_pos (by omega)]
          · rw [if_neg e5, if_neg (by omega)]
    · simp only [if_neg e, Nat.add_zero]
      by_cases e4 : (h + r) % l.length < i
      · rw [if_pos e4, if_pos (show (h + r) % l.length < i + 1 by omega)]
      · rw [if_neg e4]
        by_cases e5 : (h + r) % l.length < i + 1
        · rw [if_pos e5, show (h + r) % l.length = i by omega]
          unfold one
          rw [if_neg e]
        · rw [if_neg e5]
theorem acc2_rest (l : List Int) {h : Nat} (c : Int) (hh : h < l.length) : ∀ r, r ≤ l.length → acc2 l 0 r h c l.length = cnt l h c r
  | 0, _ => acc2_zero l h c _
  | r + 1, hr => by
    rw [acc2_more l c hh (by omega) l.length (Nat.le_refl _), if_pos (Nat.mod_lt _ (by omega)), acc2_rest l c hh r (by omega)]
    rfl
theorem acc2_full (l : List Int) {h : Nat} (c : Int) (hh : h < l.length) (t : Nat) : acc2 l (t / l.length) (t % l.length) h c l.length = cnt l h c t := by
  rw [acc2_split l _ _ h c _ (Nat.le_refl _), acc2_rest l c hh _ (Nat.le_of_lt (Nat.mod_lt _ (by omega))), cnt_split l h c t]
  rfl
theorem acc2_mono (l : List Int) (q r h : Nat) (c : Int) (i : Nat) : ∀ k, acc2 l q r h c i ≤ acc2 l q r h c (i + k)
  | 0 => Nat.le_refl _
  | k + 1 => by
    have := acc2_mono l q r h c i k
    rw [show i + (k + 1) = (i + k) + 1 by omega]
    simp only [acc2]
    omega
theorem acc2_le (l : List Int) {h : Nat} (c : Int) (hh : h < l.length) (t : Nat) {i : Nat} (hi : i ≤ l.length) : acc2 l (t / l.length) (t % l.length) h c i ≤ t := by
  obtain ⟨k, hk⟩ := Nat.le.dest hi
  have h1 := acc2_mono l (t / l.length) (t % l.length) h c i k
  rw [hk, acc2_full l c hh] at h1
  have := cnt_le l h c t
  omega
end Go.Proofs.Ytioglpaakmmidaa
