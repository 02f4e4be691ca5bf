/- Even wheels, plainly: credits, the class that is picked; each stands as often as its weight; twice the weights. Nothing here speaks of the program. -/
import Derived.Test.YtioglpaakmmidaaWMath
namespace Go.Proofs.Ytioglpaakmmidaa

/-- The greatest of the first k, of like ones the first. -/
def bst (f : Int → Int) : Nat → Nat
  | 0 => 0
  | k + 1 => if f (bst f k) < f k then k else bst f k
theorem bst_lt (f : Int → Int) : ∀ k, bst f k ≤ k - 1
  | 0 => Nat.le_refl _
  | k + 1 => by
    have := bst_lt f k
    simp only [bst]
    split <;> omega
theorem bst_lt3 (f : Int → Int) {k : Nat} (h : k ≤ 3) : bst f k < 3 := by have := bst_lt f k; omega
theorem bst_ge (f : Int → Int) : ∀ k j : Nat, j < k → f j ≤ f (bst f k)
  | 0, j, h => absurd h (Nat.not_lt_zero j)
  | k + 1, j, h => by
    have ih := bst_ge f k
    simp only [bst]
    split
    · by_cases e : j = k
      · subst e; exact Int.le_refl _
      · have := ih j (by omega); omega
    · by_cases e : j = k
      · subst e; omega
      · exact ih j (by omega)
theorem bst_congr {f g : Int → Int} : ∀ k : Nat, k ≤ 3 → (∀ j : Nat, j < k → f j = g j) → (0 < k ∨ f 0 = g 0) → bst f k = bst g k
  | 0, _, _, _ => rfl
  | k + 1, hk, h, h0 => by
    have h00 : f 0 = g 0 := by
      rcases h0 with h0 | h0
      · exact h 0 (by omega)
      · exact h0
    have ih := bst_congr k (by omega) (fun j hj => h j (by omega)) (.inr h00)
    have hb := bst_lt f k
    have e1 : f (bst f k) = g (bst f k) := by
      by_cases hk0 : k = 0
      · subst hk0; exact h00
      · exact h _ (by omega)
    simp only [bst]
    rw [← ih, e1, h k (by omega)]

abbrev Cred := Int → Int
def turnC (W : Cred) (all : Int) (f : Cred) : Cred := fun c => f c + W c - (if c = (bst (fun c => f c + W c) 3 : Nat) then all else 0)
def crd (W : Cred) (all : Int) : Nat → Cred
  | 0 => fun _ => 0
  | i + 1 => turnC W all (crd W all i)
def pickE (W : Cred) (all : Int) (i : Nat) : Nat := bst (fun c => crd W all i c + W c) 3
def evs (W : Cred) (all : Int) (n : Nat) : List Int := (List.range n).map fun i => (pickE W all i : Int)
theorem evs_len (W : Cred) (all : Int) (n : Nat) : (evs W all n).length = n := by simp [evs]
theorem evs_succ (W : Cred) (all : Int) (n : Nat) : evs W all (n + 1) = evs W all n ++ [(pickE W all n : Int)] := by simp [evs, List.range_succ]
theorem evs_at (W : Cred) (all : Int) {n i : Nat} (h : i < n) : (evs W all n).getD i 0 = pickE W all i := by simp [evs, List.getD, h]
theorem pick_lt (W : Cred) (all : Int) (i : Nat) : pickE W all i < 3 := bst_lt3 _ (Nat.le_refl _)
theorem crd_succ (W : Cred) (all : Int) (i : Nat) (c : Int) : crd W all (i + 1) c = crd W all i c + W c - (if c = (pickE W all i : Nat) then all else 0) := rfl

/-- Weights that may be. -/
structure OkW (W : Cred) : Prop where
  w0 : 1 ≤ W 0
  w1 : 1 ≤ W 1
  w2 : 1 ≤ W 2
  top : W 0 + W 1 + W 2 ≤ 64
def allW (W : Cred) : Nat := (W 0 + W 1 + W 2).toNat
theorem OkW.all {W : Cred} (h : OkW W) : (allW W : Int) = W 0 + W 1 + W 2 ∧ 3 ≤ allW W ∧ allW W ≤ 64 := by
  have := h.w0
  have := h.w1
  have := h.w2
  have := h.top
  unfold allW
  omega

section
variable {W : Cred} (ok : OkW W)
include ok
theorem crd_inv : ∀ i, crd W (allW W) i 0 + crd W (allW W) i 1 + crd W (allW W) i 2 = 0 ∧ (∀ c : Nat, c < 3 → -(allW W : Int) < crd W (allW W) i c)
  | 0 => ⟨rfl, fun c _ => by
    have := ok.all
    simp only [crd]
    omega⟩
  | i + 1 => by
    obtain ⟨h1, h2⟩ := crd_inv i
    obtain ⟨ha, ha2, _⟩ := ok.all
    have hp := pick_lt W (allW W) i
    have hge := fun j hj => bst_ge (fun c => crd W (allW W) i c + W c) 3 j hj
    have g0 := hge 0 (by omega)
    have g1 := hge 1 (by omega)
    have g2 := hge 2 (by omega)
    have hw0 := ok.w0
    have hw1 := ok.w1
    have hw2 := ok.w2
    have e0 := crd_succ W (allW W) i 0
    have e1 := crd_succ W (allW W) i 1
    have e2 := crd_succ W (allW W) i 2
    have k0 := h2 0 (by omega)
    have k1 := h2 1 (by omega)
    have k2 := h2 2 (by omega)
    have hcase : pickE W (allW W) i = 0 ∨ pickE W (allW W) i = 1 ∨ pickE W (allW W) i = 2 := by omega
    change _ ≤ crd W (allW W) i (pickE W (allW W) i : Nat) + W (pickE W (allW W) i : Nat) at g0 g1 g2
    simp only [Int.cast_ofNat_Int] at g0 g1 g2 k0 k1 k2
    have fin : ∀ c : Nat, c < 3 → c = 0 ∨ c = 1 ∨ c = 2 := fun c hc => by omega
    rcases hcase with h | h | h <;> rw [h] at e0 e1 e2 g0 g1 g2 <;> simp at e0 e1 e2 g0 g1 g2 <;> refine ⟨by omega, fun c hc => ?_⟩ <;> rcases fin c hc with rfl | rfl | rfl <;> simp <;> omega
theorem crd_bound (i : Nat) {c : Nat} (hc : c < 3) : -(64 : Int) ≤ crd W (allW W) i c ∧ crd W (allW W) i c ≤ 128 := by
  obtain ⟨h1, h2⟩ := crd_inv ok i
  obtain ⟨ha, ha2, ha3⟩ := ok.all
  have k0 := h2 0 (by omega)
  have k1 := h2 1 (by omega)
  have k2 := h2 2 (by omega)
  simp only [Int.cast_ofNat_Int] at k0 k1 k2
  have hcase : c = 0 ∨ c = 1 ∨ c = 2 := by omega
  rcases hcase with rfl | rfl | rfl <;> simp <;> omega
/-- How often c is picked in the first i turns. -/
def cntE (W : Cred) (all : Int) (c : Nat) : Nat → Nat
  | 0 => 0
  | i + 1 => cntE W all c i + if pickE W all i = c then 1 else 0
omit ok in
theorem crd_cnt (W : Cred) (all : Int) (c : Nat) : ∀ i : Nat, crd W all i c = i * W c - all * cntE W all c i
  | 0 => by simp [crd, cntE]
  | i + 1 => by
    rw [crd_succ, crd_cnt W all c i]
    simp only [cntE]
    by_cases h : pickE W all i = c
    · rw [if_pos h, if_pos (by omega)]
      simp [Int.add_mul, Int.mul_add]
      omega
    · rw [if_neg h, if_neg (by omega)]
      simp [Int.add_mul]
      omega
omit ok in
theorem cntE_all (W : Cred) (all : Int) : ∀ i, cntE W all 0 i + cntE W all 1 i + cntE W all 2 i = i
  | 0 => rfl
  | i + 1 => by
    have := cntE_all W all i
    have hp := pick_lt W all i
    have hcase : pickE W all i = 0 ∨ pickE W all i = 1 ∨ pickE W all i = 2 := by omega
    simp only [cntE]
    rcases hcase with h | h | h <;> simp [h] <;> omega
/-- In the whole round each is picked as often as its weight. -/
theorem cntE_full {c : Nat} (hc : c < 3) : (cntE W (allW W) c (allW W) : Int) = W c := by
  obtain ⟨h1, h2⟩ := crd_inv ok (allW W)
  obtain ⟨ha, ha2, ha3⟩ := ok.all
  have up : ∀ c : Nat, c < 3 → (cntE W (allW W) c (allW W) : Int) ≤ W c := by
    intro c hc
    have h3 := h2 c hc
    rw [crd_cnt] at h3
    have h4 : (allW W : Int) * (W c - cntE W (allW W) c (allW W) + 1) > 0 := by
      rw [Int.mul_add, Int.mul_sub]
      omega
    have h5 : 0 < W c - (cntE W (allW W) c (allW W) : Int) + 1 := Int.lt_of_mul_lt_mul_left (a := (allW W : Int)) (by rw [Int.mul_zero]; exact h4) (by omega)
    omega
  have s := cntE_all W (allW W) (allW W)
  have u0 := up 0 (by omega)
  have u1 := up 1 (by omega)
  have u2 := up 2 (by omega)
  simp only [Int.cast_ofNat_Int] at u0 u1 u2
  have hcase : c = 0 ∨ c = 1 ∨ c = 2 := by omega
  rcases hcase with rfl | rfl | rfl <;> simp <;> omega
theorem crd_full {c : Nat} (hc : c < 3) : crd W (allW W) (allW W) c = 0 := by
  rw [crd_cnt, cntE_full ok hc]
  omega
theorem crd_again : ∀ i {c : Nat}, c < 3 → crd W (allW W) (allW W + i) c = crd W (allW W) i c
  | 0, c, hc => by rw [Nat.add_zero, crd_full ok hc]; rfl
  | i + 1, c, hc => by
    have ih := fun (j : Nat) (hj : j < 3) => crd_again i hj
    rw [show allW W + (i + 1) = (allW W + i) + 1 by omega, crd_succ, crd_succ, ih c hc]
    have e : pickE W (allW W) (allW W + i) = pickE W (allW W) i := bst_congr 3 (Nat.le_refl _) (fun j hj => by rw [ih j hj]) (.inl (by omega))
    rw [e]
theorem pick_again (i : Nat) : pickE W (allW W) (allW W + i) = pickE W (allW W) i :=
  bst_congr 3 (Nat.le_refl _) (fun j hj => by rw [crd_again ok i hj]) (.inl (by omega))
end
/- twice the weights -/
def dbl (W : Cred) : Cred := fun c => 2 * W c
theorem bst_dbl {f g : Int → Int} (h : ∀ c, g c = 2 * f c) : ∀ k, bst g k = bst f k
  | 0 => rfl
  | k + 1 => by
    simp only [bst]
    rw [bst_dbl h k, h, h]
    by_cases hh : f (bst f k) < f k
    · rw [if_pos hh, if_pos (by omega)]
    · rw [if_neg hh, if_neg (by omega)]
theorem crd_dbl (W : Cred) (all : Int) : ∀ i c, crd (dbl W) (2 * all) i c = 2 * crd W all i c
  | 0, c => rfl
  | i + 1, c => by
    have ih := crd_dbl W all i
    have e : pickE (dbl W) (2 * all) i = pickE W all i := bst_dbl (fun c => by rw [ih]; unfold dbl; omega) 3
    rw [crd_succ, crd_succ, ih, e]
    unfold dbl
    split <;> omega
theorem pick_dbl (W : Cred) (all : Int) (i : Nat) : pickE (dbl W) (2 * all) i = pickE W all i := bst_dbl (fun c => by rw [crd_dbl]; unfold dbl; omega) 3
theorem evs_dbl {W : Cred} (ok : OkW W) : evs (dbl W) ((2 * allW W : Nat) : Int) (2 * allW W) = evs W (allW W) (allW W) ++ evs W (allW W) (allW W) := by
  have e : evs (dbl W) ((2 * allW W : Nat) : Int) (2 * allW W) = evs W (allW W) (2 * allW W) := by
    unfold evs
    refine List.map_congr_left fun i _ => ?_
    rw [show ((2 * allW W : Nat) : Int) = 2 * (allW W : Int) by omega, pick_dbl]
  rw [e, show 2 * allW W = allW W + allW W by omega]
  unfold evs
  rw [List.range_add, List.map_append]
  congr 1
  rw [List.map_map]
  exact List.map_congr_left fun i _ => by simp [pick_again ok]
theorem allW_dbl {W : Cred} (ok : OkW W) : allW (dbl W) = 2 * allW W := by
  have := ok.w0
  have := ok.w1
  have := ok.w2
  unfold allW dbl
  omega
theorem evs_cnt (W : Cred) (all : Int) {c : Nat} : ∀ {n i : Nat}, i ≤ n → cntE W all c i = ((evs W all n).take i).count (c : Int)
  | n, 0, _ => by simp [cntE]
  | n, i + 1, h => by
    rw [take_snoc (by rw [evs_len]; omega), List.count_append, ← evs_cnt W all (by omega), evs_at W all (by omega)]
    simp only [cntE]
    by_cases e : pickE W all i = c
    · simp [e]
    · rw [if_neg e, List.count_eq_zero_of_not_mem (by simp; omega)]
theorem evs_isW {W : Cred} (ok : OkW W) : IsW (evs W (allW W) (allW W)) := by
  obtain ⟨ha, ha2, ha3⟩ := ok.all
  refine isW_of (by rw [evs_len]; omega) (fun j hj => ?_) (fun k hk => ?_)
  · rw [evs_len] at hj
    rw [evs_at _ _ hj]
    have := pick_lt W (allW W) j
    omega
  · have h1 := cntE_full ok hk
    have h2 := evs_cnt W (allW W) (c := k) (Nat.le_refl (allW W))
    rw [List.take_of_length_le (by rw [evs_len]; omega)] at h2
    have h3 : 0 < (evs W (allW W) (allW W)).count (k : Int) := by
      rw [← h2]
      have := ok.w0
      have := ok.w1
      have := ok.w2
      have hcase : k = 0 ∨ k = 1 ∨ k = 2 := by omega
      rcases hcase with rfl | rfl | rfl <;> simp at h1 <;> omega
    exact List.count_pos_iff.1 h3
end Go.Proofs.Ytioglpaakmmidaa
