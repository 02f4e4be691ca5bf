/-
  A list that stands turned in a row of places: plain facts. Nothing here speaks of the program.
-/
namespace Go.Proofs.Yteebkgclopffbaa

/-- cs is L, turned by h: the thing k of L stands at place (h + k) modulo the length. -/
def Rot (cs : List Int) (h : Nat) (L : List Int) : Prop := cs.length = L.length ∧ ∀ k, k < L.length → cs[(h + k) % L.length]? = L[k]?

theorem Rot.zero (L : List Int) : Rot L 0 L := ⟨rfl, fun k hk => by rw [Nat.zero_add, Nat.mod_eq_of_lt hk]⟩

theorem mod_inj {n h i j : Nat} (hi : i < n) (hj : j < n) (e : (h + i) % n = (h + j) % n) : i = j := by
  have hn : 0 < n := by omega
  have h1 := Nat.div_add_mod (h + i) n
  have h2 := Nat.div_add_mod (h + j) n
  rw [e] at h1
  have h3 : n * ((h + i) / n) + (h + j) = n * ((h + j) / n) + (h + i) := by omega
  rcases Nat.lt_trichotomy ((h + i) / n) ((h + j) / n) with hlt | heq | hgt
  · have : n * ((h + i) / n) + n ≤ n * ((h + j) / n) := by rw [← Nat.mul_succ]; exact Nat.mul_le_mul_left n hlt
    omega
  · rw [heq] at h3; omega
  · have : n * ((h + j) / n) + n ≤ n * ((h + i) / n) := by rw [← Nat.mul_succ]; exact Nat.mul_le_mul_left n hgt
    omega

theorem Rot.set {cs L : List Int} {h : Nat} (r : Rot cs h L) {j : Nat} (hj : j < L.length) (x : Int) : Rot (cs.set ((h + j) % L.length) x) h (L.set j x) := by
  obtain ⟨hl, hk⟩ := r
  refine ⟨by simp [hl], fun k hkl => ?_⟩
  simp only [List.length_set] at hkl ⊢
  have hm : (h + j) % L.length < cs.length := by rw [hl]; exact Nat.mod_lt _ (by omega)
  by_cases e : j = k
  · subst e
    rw [List.getElem?_set_self hm, List.getElem?_set_self hj]
  · rw [List.getElem?_set_ne (fun h2 => e (mod_inj hj hkl h2)), List.getElem?_set_ne e]
    exact hk k hkl

/-- The head goes on by one: what stood first stands last. -/
theorem Rot.step {cs L : List Int} {h : Nat} (r : Rot cs h L) {x : Int} {T : List Int} (hL : L = x :: T) : Rot cs ((h + 1) % L.length) (T ++ [x]) := by
  obtain ⟨hl, hk⟩ := r
  have hlen : (T ++ [x]).length = L.length := by rw [hL]; simp
  refine ⟨by rw [hl, hlen], fun k hkl => ?_⟩
  rw [hlen] at hkl ⊢
  have e1 : ((h + 1) % L.length + k) % L.length = (h + (k + 1)) % L.length := by
    rw [Nat.mod_add_mod]
    congr 1
    omega
  rw [e1]
  by_cases hlast : k + 1 < L.length
  · rw [hk (k + 1) hlast, hL, List.getElem?_cons_succ]
    have : k < T.length := by rw [hL] at hlast; simpa using hlast
    rw [List.getElem?_append_left this]
  · have hk1 : k + 1 = L.length := by omega
    have hkT : k = T.length := by rw [hL] at hk1; simpa using hk1
    rw [hk1, Nat.add_mod_right]
    have h0 := hk 0 (by omega)
    rw [Nat.add_zero] at h0
    rw [h0, hL, hkT]
    simp

theorem Rot.get {cs L : List Int} {h k : Nat} (r : Rot cs h L) (hk : k < L.length) : cs[(h + k) % L.length]? = some (L.getD k 0) := by
  rw [r.2 k hk, List.getElem?_eq_getElem hk]
  simp [List.getD, hk]

/-- Those of place i on, k of them. -/
theorem take_drop_snoc (L : List Int) (i k : Nat) (h : i + k < L.length) : (L.drop i).take (k + 1) = (L.drop i).take k ++ [L.getD (i + k) 0] := by
  rw [List.take_add_one, List.getElem?_drop, List.getElem?_eq_getElem h]
  simp [List.getD, h]

/-- The gap at i closed from behind, as far as place k. -/
def shutTail (L : List Int) (i k : Nat) (M : List Int) : Prop := M.length = L.length ∧ ∀ j, M[j]? = if i ≤ j ∧ j < k then L[j + 1]? else L[j]?
theorem shutTail.start (L : List Int) (i : Nat) : shutTail L i i L := ⟨rfl, fun j => by rw [if_neg (by omega)]⟩
theorem shutTail.step {L M : List Int} {i k : Nat} (s : shutTail L i k M) (hik : i ≤ k) (hk : k + 1 < L.length) : shutTail L i (k + 1) (M.set k (M.getD (k + 1) 0)) := by
  obtain ⟨hl, hj⟩ := s
  refine ⟨by simp [hl], fun j => ?_⟩
  have hv : M.getD (k + 1) 0 = L.getD (k + 1) 0 := by
    have := hj (k + 1)
    rw [if_neg (by omega)] at this
    simp [List.getD, this]
  by_cases e : k = j
  · subst e
    rw [List.getElem?_set_self (by omega), if_pos (by omega), hv, List.getElem?_eq_getElem hk]
    simp [List.getD, hk]
  · rw [List.getElem?_set_ne e, hj j]
    by_cases h1 : i ≤ j ∧ j < k
    · rw [if_pos h1, if_pos (by omega)]
    · rw [if_neg h1, if_neg (by omega)]
theorem shutTail.done {L M : List Int} {i c : Nat} (s : shutTail L i (c - 1) M) (hi : i < c) (x : Int) : (M.set (c - 1) x).take (c - 1) = (L.take c).eraseIdx i := by
  obtain ⟨hl, hj⟩ := s
  apply List.ext_getElem?
  intro j
  rw [List.getElem?_eraseIdx, List.getElem?_take, List.getElem?_take, List.getElem?_take]
  by_cases h1 : j < c - 1
  · rw [if_pos h1, List.getElem?_set_ne (by omega), hj j]
    by_cases h2 : j < i
    · rw [if_neg (by omega), if_pos h2, if_pos (by omega)]
    · rw [if_pos (by omega), if_neg h2, if_pos (by omega)]
  · rw [if_neg h1]
    by_cases h2 : j < i
    · omega
    · rw [if_neg h2, if_neg (by omega)]

/-- The gap at i closed from ahead, as far as place k. -/
def shutHead (L : List Int) (i k : Nat) (M : List Int) : Prop := M.length = L.length ∧ ∀ j, M[j]? = if k < j ∧ j ≤ i then L[j - 1]? else L[j]?
theorem shutHead.start (L : List Int) (i : Nat) : shutHead L i i L := ⟨rfl, fun j => by rw [if_neg (by omega)]⟩
theorem shutHead.step {L M : List Int} {i k : Nat} (s : shutHead L i k M) (h0 : 0 < k) (hki : k ≤ i) (hk : i < L.length) : shutHead L i (k - 1) (M.set k (M.getD (k - 1) 0)) := by
  obtain ⟨hl, hj⟩ := s
  refine ⟨by simp [hl], fun j => ?_⟩
  have hv : M.getD (k - 1) 0 = L.getD (k - 1) 0 := by
    have := hj (k - 1)
    rw [if_neg (by omega)] at this
    simp [List.getD, this]
  by_cases e : k = j
  · subst e
    rw [List.getElem?_set_self (by omega), if_pos (by omega), hv, List.getElem?_eq_getElem (by omega)]
    simp [List.getD, show k - 1 < L.length by omega]
  · rw [List.getElem?_set_ne e, hj j]
    by_cases h1 : k < j ∧ j ≤ i
    · rw [if_pos h1, if_pos (by omega)]
    · rw [if_neg h1, if_neg (by omega)]
theorem shutHead.done {L M T : List Int} {i c : Nat} {x y : Int} (s : shutHead L i 0 M) (hi : i < c) (hc : c ≤ L.length) (e : M.set 0 x = y :: T) : (T ++ [y]).take (c - 1) = (L.take c).eraseIdx i := by
  obtain ⟨hl, hj⟩ := s
  have hT : T.length + 1 = L.length := by
    have := congrArg List.length e
    simp at this
    omega
  apply List.ext_getElem?
  intro j
  rw [List.getElem?_eraseIdx, List.getElem?_take, List.getElem?_take, List.getElem?_take]
  by_cases h1 : j < c - 1
  · rw [if_pos h1, List.getElem?_append_left (by omega)]
    have e2 : T[j]? = (M.set 0 x)[j + 1]? := by rw [e, List.getElem?_cons_succ]
    rw [e2, List.getElem?_set_ne (by omega), hj (j + 1)]
    by_cases h2 : j < i
    · rw [if_pos (by omega), if_pos h2, if_pos (by omega)]
      rfl
    · rw [if_neg (by omega), if_neg h2, if_pos (by omega)]
  · rw [if_neg h1]
    by_cases h2 : j < i
    · omega
    · rw [if_neg h2, if_neg (by omega)]

end Go.Proofs.Yteebkgclopffbaa
