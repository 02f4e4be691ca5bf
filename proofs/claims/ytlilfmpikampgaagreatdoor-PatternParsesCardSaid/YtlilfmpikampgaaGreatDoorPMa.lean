/- Bytes, digits, and the one form of a number. Nothing here speaks of the program. Whole numbers as floats: how they are read, how they stand, cut towards zero. Nothing here speaks of the program. Terms as trees, tokens, and the reader as a machine that goes from token to token. Nothing here speaks of the program. The machine over the tokens that a range over runes finds, and the machine over the text. Nothing here speaks of the program. The document's numbers: which texts are one. Nothing here speaks of the program. -/
import Derived.Lib.AtoiAllCases
import Derived.Lib.ItoaNum
import Derived.Lib.IndexMore
import Derived.Lib.Strings
import Derived.Laws.FloatArith
import Derived.Laws.Cover3
import GoSem.Extern.MathFloor
import Derived.Laws.RangeString
import Derived.Laws.RangeAny
namespace Go.Proofs.YtlilfmpikampgaaGreatDoor
open Go

def isDig (b : UInt8) : Bool := decide (48 ≤ b.toNat) && decide (b.toNat ≤ 57)
def isSm (b : UInt8) : Bool := decide (97 ≤ b.toNat) && decide (b.toNat ≤ 122)
def isCap (b : UInt8) : Bool := decide (65 ≤ b.toNat) && decide (b.toNat ≤ 90)
def isWd (b : UInt8) : Bool := isSm b || isDig b || isCap b || decide (b.toNat = 95)
def isBl (b : UInt8) : Bool := decide (b.toNat = 32) || decide (b.toNat = 9) || decide (b.toNat = 10) || decide (b.toNat = 13)
/-- How many bytes ahead are such. -/
def runOf (p : UInt8 → Bool) (l : List UInt8) : Nat := (l.takeWhile p).length
theorem runOf_nil (p : UInt8 → Bool) : runOf p [] = 0 := rfl
theorem runOf_yes {p : UInt8 → Bool} {b : UInt8} (l : List UInt8) (h : p b = true) : runOf p (b :: l) = runOf p l + 1 := by simp [runOf, h]
theorem runOf_no {p : UInt8 → Bool} {b : UInt8} (l : List UInt8) (h : p b = false) : runOf p (b :: l) = 0 := by simp [runOf, h]
theorem runOf_le (p : UInt8 → Bool) (l : List UInt8) : runOf p l ≤ l.length := by
  unfold runOf
  exact List.Sublist.length_le (List.takeWhile_sublist p)
theorem runOf_take (p : UInt8 → Bool) (l : List UInt8) : l.take (runOf p l) = l.takeWhile p := by
  induction l with
  | nil => rfl
  | cons b l ih =>
    by_cases h : p b = true
    · rw [runOf_yes l h, List.take_succ_cons, ih, List.takeWhile_cons, if_pos h]
    · have h' : p b = false := by simpa using h
      rw [runOf_no l h', List.takeWhile_cons, if_neg h]
      rfl
theorem runOf_all {p : UInt8 → Bool} {l : List UInt8} {c : UInt8} (h : c ∈ l.take (runOf p l)) : p c = true := by
  rw [runOf_take] at h
  induction l with
  | nil => simp at h
  | cons b l ih =>
    by_cases hb : p b = true
    · rw [List.takeWhile_cons, if_pos hb] at h
      rcases List.mem_cons.1 h with rfl | h
      · exact hb
      · exact ih h
    · rw [List.takeWhile_cons, if_neg hb] at h
      simp at h
theorem runOf_stop {p : UInt8 → Bool} {l : List UInt8} {b : UInt8} (h : l[runOf p l]? = some b) : p b = false := by
  induction l with
  | nil => simp at h
  | cons c l ih =>
    by_cases hc : p c = true
    · rw [runOf_yes l hc] at h
      exact ih (by simpa using h)
    · have h' : p c = false := by simpa using hc
      rw [runOf_no l h'] at h
      simp at h
      rw [← h]; exact h'
theorem runOf_of {p : UInt8 → Bool} {l : List UInt8} {k : Nat} (h1 : ∀ j b, j < k → l[j]? = some b → p b = true) (h2 : ∀ b, l[k]? = some b → p b = false) (hk : k ≤ l.length) : runOf p l = k := by
  induction l generalizing k with
  | nil => simp at hk; subst hk; rfl
  | cons c l ih =>
    cases k with
    | zero => exact runOf_no l (h2 c rfl)
    | succ k =>
      rw [runOf_yes l (h1 0 c (by omega) rfl), ih (k := k) (fun j b hj hb => h1 (j + 1) b (by omega) (by simpa using hb)) (fun b hb => h2 b (by simpa using hb)) (by simpa using hk)]

/-! ### What digits are worth -/
def dv (acc : Nat) (l : List UInt8) : Nat := l.foldl (fun a c => a * 10 + (c.toNat - 48)) acc
theorem dv_nil (acc : Nat) : dv acc [] = acc := rfl
theorem dv_cons (acc : Nat) (c : UInt8) (l : List UInt8) : dv acc (c :: l) = dv (acc * 10 + (c.toNat - 48)) l := by simp only [dv, List.foldl_cons]
theorem dv_snoc (acc : Nat) (l : List UInt8) (c : UInt8) : dv acc (l ++ [c]) = dv acc l * 10 + (c.toNat - 48) := by simp [dv, List.foldl_append]
theorem dv_ge (l : List UInt8) (acc : Nat) : acc ≤ dv acc l := by
  induction l generalizing acc with
  | nil => exact Nat.le_refl _
  | cons c l ih => rw [dv_cons]; have := ih (acc * 10 + (c.toNat - 48)); omega
theorem isDig_bd {c : UInt8} (h : isDig c = true) : 48 ≤ c.toNat ∧ c.toNat ≤ 57 := by simpa [isDig] using h
theorem parse_of {l : List UInt8} : ∀ {acc : Nat}, (∀ c ∈ l, isDig c = true) → dv acc l < 18446744073709551616 → Lib.parseUint10 acc l = Lib.NumEnd.ok (dv acc l) := by
  induction l with
  | nil => intro acc _ _; simp only [Lib.parseUint10, dv_nil]
  | cons c l ih =>
    intro acc hd hv
    obtain ⟨h1, h2⟩ := isDig_bd (hd c (by simp))
    rw [dv_cons] at hv ⊢
    have hge := dv_ge l (acc * 10 + (c.toNat - 48))
    have hn := ih (fun x hx => hd x (by simp [hx])) hv
    simp only [Lib.parseUint10]
    generalize hB : dv (acc * 10 + (c.toNat - 48)) l = B at hv hge hn
    clear ih hd hB
    split
    · split
      · exfalso; omega
      · split
        · exfalso; omega
        · exact hn
    · exfalso; omega
theorem parse_ok {l : List UInt8} : ∀ {acc u : Nat}, Lib.parseUint10 acc l = .ok u → (∀ c ∈ l, isDig c = true) ∧ u = dv acc l := by
  induction l with
  | nil => intro acc u h; simp only [Lib.parseUint10] at h; injection h with h; exact ⟨by simp, h.symm⟩
  | cons c l ih =>
    intro acc u h
    simp only [Lib.parseUint10] at h
    split at h
    · rename_i hc
      split at h
      · cases h
      · split at h
        · cases h
        · obtain ⟨h1, h2⟩ := ih h
          refine ⟨fun x hx => ?_, h2⟩
          rcases List.mem_cons.1 hx with rfl | hx
          · simp [isDig, hc.1, hc.2]
          · exact h1 x hx
    · cases h

/-- Digits in the one form: some, without a nought ahead of others. -/
def Can (l : List UInt8) : Prop := l ≠ [] ∧ (∀ c ∈ l, isDig c = true) ∧ (l.head? = some 48 → l.length = 1)
theorem toNat_48 {u : Nat} (h : u < 10) : (UInt8.ofNat (48 + u)).toNat = 48 + u := by simp [UInt8.toNat_ofNat']; omega
theorem dec_small {u : Nat} (h : u < 10) : Lib.decDigits u = [UInt8.ofNat (48 + u)] := Lib.decDigits_one h
theorem dec_big {u : Nat} (h : ¬ u < 10) : Lib.decDigits u = Lib.decDigits (u / 10) ++ [UInt8.ofNat (48 + u % 10)] := by rw [Lib.decDigits, dif_neg h]
theorem dec_ne (u : Nat) : Lib.decDigits u ≠ [] := by
  intro h
  have := Lib.decDigits_length u
  rw [h] at this
  have h2 := Lib.nDigits_pos u
  simp at this
  omega
theorem dec_dig (u : Nat) : ∀ c ∈ Lib.decDigits u, isDig c = true := by
  induction u using Nat.strongRecOn with
  | _ u ih =>
    intro c hc
    by_cases h : u < 10
    · rw [dec_small h] at hc
      have e : c = UInt8.ofNat (48 + u) := by simpa using hc
      rw [e, isDig, toNat_48 h]
      simp; omega
    · rw [dec_big h, List.mem_append] at hc
      rcases hc with hc | hc
      · exact ih (u / 10) (by omega) c hc
      · have e : c = UInt8.ofNat (48 + u % 10) := by simpa using hc
        rw [e, isDig, toNat_48 (by omega)]
        simp; omega
theorem dec_val (u : Nat) : dv 0 (Lib.decDigits u) = u := by
  induction u using Nat.strongRecOn with
  | _ u ih =>
    by_cases h : u < 10
    · rw [dec_small h, dv_cons, dv_nil, toNat_48 h]; omega
    · rw [dec_big h, dv_snoc, ih (u / 10) (by omega), toNat_48 (by omega)]; omega
theorem dec_head (u : Nat) (h : (Lib.decDigits u).head? = some 48) : u = 0 := by
  induction u using Nat.strongRecOn with
  | _ u ih =>
    by_cases hu : u < 10
    · rw [dec_small hu] at h
      have e : UInt8.ofNat (48 + u) = 48 := by simpa using h
      have := toNat_48 hu
      rw [e] at this
      have : (48 : UInt8).toNat = 48 := rfl
      omega
    · rw [dec_big hu] at h
      have h1 : (Lib.decDigits (u / 10)).head? = some 48 := by
        cases hd : Lib.decDigits (u / 10) with
        | nil => exact absurd hd (dec_ne _)
        | cons a r => rw [hd] at h; simpa using h
      have := ih (u / 10) (by omega) h1
      omega
theorem dec_can (u : Nat) : Can (Lib.decDigits u) := by
  refine ⟨dec_ne u, dec_dig u, fun h => ?_⟩
  have := dec_head u h
  subst this
  rw [dec_small (by decide)]
  rfl
theorem head_pos {a : UInt8} {r : List UInt8} (h1 : isDig a = true) (h2 : a ≠ 48) : 1 ≤ dv 0 (a :: r) := by
  rw [dv_cons]
  have := dv_ge r (0 * 10 + (a.toNat - 48))
  have hb := isDig_bd h1
  have : a.toNat ≠ 48 := fun e => h2 (UInt8.toNat_inj.1 e)
  omega
theorem can_dec {l : List UInt8} (h : Can l) : Lib.decDigits (dv 0 l) = l := by
  obtain ⟨h0, h1, h2⟩ := h
  induction hn : l.length using Nat.strongRecOn generalizing l with
  | _ n ih =>
    obtain ⟨r, c, rfl⟩ : ∃ r c, l = r ++ [c] := ⟨l.dropLast, l.getLast h0, (List.dropLast_concat_getLast h0).symm⟩
    have hc := isDig_bd (h1 c (by simp))
    rw [dv_snoc]
    cases r with
    | nil =>
      rw [dv_nil, dec_small (by omega)]
      simp
      apply UInt8.toNat_inj.1
      have := toNat_48 (u := c.toNat - 48) (by omega)
      have e : (UInt8.ofNat (48 + (c.toNat - 48))).toNat = c.toNat := by omega
      simpa using e
    | cons a r =>
      have ha : a ≠ 48 := by
        intro e
        have := h2 (by simp [e])
        simp at this
      have hp := head_pos (r := r) (h1 a (by simp)) ha
      have hr : Lib.decDigits (dv 0 (a :: r)) = a :: r := by
        refine ih (a :: r).length (by rw [← hn]; simp) (by simp) (fun x hx => h1 x (by simp at hx ⊢; rcases hx with hx | hx <;> simp [hx])) (fun e => ?_) rfl
        simp at e
        exact absurd e ha
      rw [dec_big (by omega), show (dv 0 (a :: r) * 10 + (c.toNat - 48)) / 10 = dv 0 (a :: r) by omega, hr, show (dv 0 (a :: r) * 10 + (c.toNat - 48)) % 10 = c.toNat - 48 by omega, show 48 + (c.toNat - 48) = c.toNat by omega]
      simp
theorem dv_lt (l : List UInt8) (h : ∀ c ∈ l, isDig c = true) (acc : Nat) : dv acc l < (acc + 1) * 10 ^ l.length := by
  induction l generalizing acc with
  | nil => simp [dv_nil]
  | cons c l ih =>
    have hc := isDig_bd (h c (by simp))
    have := ih (fun x hx => h x (by simp [hx])) (acc * 10 + (c.toNat - 48))
    rw [dv_cons, List.length_cons, Nat.pow_succ]
    have e : (acc * 10 + (c.toNat - 48) + 1) * 10 ^ l.length ≤ (acc + 1) * 10 * 10 ^ l.length := Nat.mul_le_mul_right _ (by omega)
    rw [show (acc + 1) * (10 ^ l.length * 10) = (acc + 1) * 10 * 10 ^ l.length by rw [Nat.mul_comm (10 ^ l.length) 10, ← Nat.mul_assoc]]
    omega
theorem can_long {l : List UInt8} (h : Can l) (hl : 20 ≤ l.length) : 10000000000000000000 ≤ dv 0 l := by
  obtain ⟨h0, h1, h2⟩ := h
  cases l with
  | nil => exact absurd rfl h0
  | cons a r =>
    have ha : a ≠ 48 := by
      intro e
      have := h2 (by simp [e])
      omega
    have key : ∀ (r : List UInt8) (acc : Nat), acc * 10 ^ r.length ≤ dv acc r := by
      intro r
      induction r with
      | nil => intro acc; simp [dv_nil]
      | cons c r ih =>
        intro acc
        rw [dv_cons, List.length_cons, Nat.pow_succ]
        have := ih (acc * 10 + (c.toNat - 48))
        have e : acc * 10 * 10 ^ r.length ≤ (acc * 10 + (c.toNat - 48)) * 10 ^ r.length := Nat.mul_le_mul_right _ (by omega)
        rw [show acc * (10 ^ r.length * 10) = acc * 10 * 10 ^ r.length by rw [Nat.mul_comm (10 ^ r.length) 10, ← Nat.mul_assoc]]
        omega
    have hb := isDig_bd (h1 a (by simp))
    have hne : a.toNat ≠ 48 := fun e => ha (UInt8.toNat_inj.1 e)
    rw [dv_cons]
    have k1 := key r (0 * 10 + (a.toNat - 48))
    have k2 : 10 ^ 19 ≤ 10 ^ r.length := Nat.pow_le_pow_right (by decide) (by simp at hl; omega)
    have k3 : 1 * 10 ^ r.length ≤ (0 * 10 + (a.toNat - 48)) * 10 ^ r.length := Nat.mul_le_mul_right _ (by omega)
    have k4 : (10 : Nat) ^ 19 = 10000000000000000000 := by decide
    omega

/-! ### A number in the form in which numbers are written -/
def numP (l : List UInt8) : Option Int := match Lib.atoiAll l with | .ok v => if Lib.itoa v = l then some v else none | _ => none
theorem numP_some {l : List UInt8} {v : Int} (h : numP l = some v) : l = Lib.itoa v ∧ -9223372036854775808 ≤ v ∧ v ≤ 9223372036854775807 := by
  unfold numP at h
  split at h
  · rename_i u hu
    split at h
    · rename_i he
      injection h with h
      subst h
      exact ⟨he.symm, Lib.atoiAll_bounds hu⟩
    · cases h
  · cases h
theorem mag_can {l : List UInt8} (h : Can l) (hv : dv 0 l < 18446744073709551616) : Lib.parseMag l = .ok (dv 0 l) := by
  unfold Lib.parseMag
  rw [if_neg h.1]
  exact parse_of h.2.1 hv
theorem can_head {l : List UInt8} (h : Can l) : ∃ c r, l = c :: r ∧ c.toNat ≠ 43 ∧ c.toNat ≠ 45 := by
  obtain ⟨h0, h1, _⟩ := h
  cases l with
  | nil => exact absurd rfl h0
  | cons c r =>
    have := isDig_bd (h1 c (by simp))
    exact ⟨c, r, rfl, by omega, by omega⟩
theorem numP_can {l : List UInt8} (h : Can l) (hv : dv 0 l < 9223372036854775808) : numP l = some (dv 0 l : Int) := by
  obtain ⟨c, r, rfl, h43, h45⟩ := can_head h
  unfold numP
  rw [Lib.atoiAll_plain c r h43 h45, mag_can h (by omega)]
  simp only [Lib.signless]
  rw [if_neg (by omega)]
  have : Lib.itoa ((dv 0 (c :: r) : Nat) : Int) = c :: r := by
    unfold Lib.itoa
    rw [if_neg (by omega)]
    simpa using can_dec h
  simp only [this, if_true]
theorem numP_neg {l : List UInt8} (h : Can l) (h0 : l ≠ [48]) (hv : dv 0 l ≤ 9223372036854775808) : numP (45 :: l) = some (-(dv 0 l : Int)) := by
  have hp : 1 ≤ dv 0 l := by
    obtain ⟨h1, h2, h3⟩ := h
    cases l with
    | nil => exact absurd rfl h1
    | cons a r =>
      refine head_pos (h2 a (by simp)) (fun e => ?_)
      have := h3 (by simp [e])
      have : r = [] := by simpa using this
      subst this e
      exact h0 rfl
  unfold numP
  rw [Lib.atoiAll_minus, mag_can h (by omega)]
  simp only [Lib.signed]
  rw [if_neg (by omega)]
  have : Lib.itoa (-((dv 0 l : Nat) : Int)) = 45 :: l := by
    unfold Lib.itoa
    rw [if_pos (by omega), show (-((dv 0 l : Nat) : Int)).natAbs = dv 0 l by omega, can_dec h]
  simp only [this, if_true]
theorem numP_shape {l : List UInt8} {v : Int} (h : numP l = some v) : (Can l ∧ v = (dv 0 l : Int)) ∨ ∃ r, l = 45 :: r ∧ Can r ∧ r ≠ [48] ∧ v = -(dv 0 r : Int) := by
  obtain ⟨rfl, hb1, hb2⟩ := numP_some h
  unfold Lib.itoa
  by_cases hv : v < 0
  · rw [if_pos hv]
    refine .inr ⟨_, rfl, dec_can _, fun e => ?_, by rw [dec_val]; omega⟩
    have := dec_head v.natAbs (by rw [e]; rfl)
    omega
  · rw [if_neg hv]
    exact .inl ⟨dec_can _, by rw [dec_val]; omega⟩
theorem numP_none {l : List UInt8} (h1 : ¬ Can l) (h2 : ∀ r, l = 45 :: r → ¬ Can r ∨ r = [48]) : numP l = none := by
  cases h : numP l with
  | none => rfl
  | some v =>
    rcases numP_shape h with ⟨h3, _⟩ | ⟨r, e, h3, h4, _⟩
    · exact absurd h3 h1
    · rcases h2 r e with h5 | h5
      · exact absurd h3 h5
      · exact absurd h5 h4
theorem numP_itoa {v : Int} (h1 : -9223372036854775808 ≤ v) (h2 : v ≤ 9223372036854775807) : numP (Lib.itoa v) = some v := by
  unfold Lib.itoa
  by_cases hv : v < 0
  · rw [if_pos hv, numP_neg (dec_can _) (fun e => by have := dec_head v.natAbs (by rw [e]; rfl); omega) (by rw [dec_val]; omega), dec_val]
    congr 1; omega
  · rw [if_neg hv, numP_can (dec_can _) (by rw [dec_val]; omega), dec_val]
    congr 1; omega

/-- An int that may be. -/
def OkI (n : Int) : Bool := decide (-4611686018427387903 ≤ n) && decide (n ≤ 4611686018427387903)
theorem okI {n : Int} : OkI n = true ↔ -4611686018427387903 ≤ n ∧ n ≤ 4611686018427387903 := by simp [OkI]
theorem okI_not {n : Int} : OkI n = false ↔ ¬ (-4611686018427387903 ≤ n ∧ n ≤ 4611686018427387903) := by
  rw [← okI]; simp
/-- The number of a text in the one form that is read. -/
def refN (l : List UInt8) : Option Int := (numP l).filter OkI
theorem refN_some {l : List UInt8} {v : Int} : refN l = some v ↔ numP l = some v ∧ OkI v = true := by
  unfold refN
  simp [Option.filter_eq_some_iff]
theorem refN_of_none {l : List UInt8} (h : numP l = none) : refN l = none := by simp [refN, h]
theorem refN_none_of {l : List UInt8} {v : Int} (h : numP l = some v) (h2 : OkI v = false) : refN l = none := by simp [refN, h, Option.filter, h2]
end Go.Proofs.YtlilfmpikampgaaGreatDoor

namespace Go.Proofs.YtlilfmpikampgaaGreatDoor
open Ieee

theorem fl_least : double.leastPlace = -1074 := by decide
theorem fl_binade : double.binade = 4503599627370496 := by decide
theorem fl_inf : double.infRung = 9218868437227405312 := by decide
theorem fl_sign : double.signWeight = 9223372036854775808 := by decide

theorem log2_bd {m : Nat} (h0 : 0 < m) (h : m < 9007199254740992) : m.log2 ≤ 52 := by
  have : m.log2 < 53 := (Nat.log2_lt (by omega)).2 h
  omega
theorem kept_bd {m : Nat} (h0 : 0 < m) (h : m < 9007199254740992) : 4503599627370496 ≤ m * 2 ^ (52 - m.log2) ∧ m * 2 ^ (52 - m.log2) < 9007199254740992 := by
  have hl := log2_bd h0 h
  have h1 : 2 ^ m.log2 ≤ m := Nat.log2_self_le (by omega)
  have h2 : m < 2 ^ (m.log2 + 1) := Nat.lt_log2_self
  have e1 : 2 ^ m.log2 * 2 ^ (52 - m.log2) = 4503599627370496 := by rw [← Nat.pow_add, show m.log2 + (52 - m.log2) = 52 by omega]
  have e2 : 2 ^ (m.log2 + 1) * 2 ^ (52 - m.log2) = 9007199254740992 := by rw [← Nat.pow_add, show m.log2 + 1 + (52 - m.log2) = 53 by omega]
  refine ⟨by rw [← e1]; exact Nat.mul_le_mul_right _ h1, by rw [← e2]; exact Nat.mul_lt_mul_of_pos_right h2 (Nat.pow_pos (by decide))⟩

theorem nearest_small (s : Bool) (m : Nat) (h0 : 0 < m) (h : m < 9007199254740992) :
    double.nearest s m 0 = double.word s ((m.log2 + 1022) * 4503599627370496 + m * 2 ^ (52 - m.log2)) := by
  have hl := log2_bd h0 h
  obtain ⟨k1, k2⟩ := kept_bd h0 h
  unfold Format.nearest
  rw [if_neg (by omega)]
  have e1 : max ((0 : Int) + (m.log2 : Int) - (double.fractionBits : Nat)) double.leastPlace = (m.log2 : Int) - 52 := by
    rw [fl_least]; show max ((0 : Int) + (m.log2 : Int) - (52 : Nat)) (-1074) = _; omega
  simp only [e1]
  have e2 : ((0 : Int) - ((m.log2 : Int) - 52)).toNat = 52 - m.log2 := by omega
  have e3 : ((m.log2 : Int) - 52 - 0).toNat = 0 := by omega
  have e4 : ((m.log2 : Int) - 52 - double.leastPlace).toNat = m.log2 + 1022 := by rw [fl_least]; omega
  rw [e2, e3, e4, fl_binade, fl_inf]
  have e5 : Toward.even.cut s (m <<< (52 - m.log2)) 0 = m * 2 ^ (52 - m.log2) := by
    unfold Toward.cut
    simp [Nat.shiftLeft_eq, Nat.mod_one]
  rw [e5, Nat.min_eq_left (by omega)]

theorem read_word (s : Bool) (L k : Nat) (hL : L ≤ 52) (h1 : 4503599627370496 ≤ k) (h2 : k < 9007199254740992) :
    double.read (double.word s ((L + 1022) * 4503599627370496 + k)) = .number s k ((L : Int) - 52) := by
  have hr : (L + 1022) * 4503599627370496 + k < 9218868437227405312 := by omega
  have w1 : (double.word s ((L + 1022) * 4503599627370496 + k)) / double.signWeight % 2 = if s then 1 else 0 := by
    unfold Format.word; rw [fl_sign]
    cases s
    · simp; omega
    · simp; omega
  have w2 : (double.word s ((L + 1022) * 4503599627370496 + k)) % double.signWeight = (L + 1022) * 4503599627370496 + k := by
    unfold Format.word; rw [fl_sign]
    cases s
    · simp; omega
    · simp; omega
  unfold Format.read
  simp only [w1, w2, fl_binade, fl_inf]
  rw [if_neg (by omega), if_pos hr, fl_least]
  congr 1
  · cases s <;> rfl
  · omega
  · omega

/-- A whole number as a float is read as itself, moved to a full significand. -/
theorem read_fl (n : Int) (h0 : n ≠ 0) (h : n.natAbs < 9007199254740992) :
    double.read (floatOfInt .f64 n) = .number (decide (n < 0)) (n.natAbs * 2 ^ (52 - n.natAbs.log2)) ((n.natAbs.log2 : Int) - 52) := by
  have hp : 0 < n.natAbs := by omega
  obtain ⟨k1, k2⟩ := kept_bd hp h
  show double.read (double.nearest (decide (n < 0)) n.natAbs 0) = _
  rw [nearest_small _ _ hp h, read_word _ _ _ (log2_bd hp h) k1 k2]
theorem read_fl0 : double.read (floatOfInt .f64 0) = .number false 0 (-1074) := by decide

/-- A float that is read as a * 2^-k. -/
def IsW (x : Nat) (n : Int) : Prop := ∃ k : Nat, double.read x = .number (decide (n < 0)) (n.natAbs * 2 ^ k) (-(k : Int))
theorem zero_shift (k : Nat) : Datum.number false 0 (-(k : Int)) = .number (decide ((0 : Int) < 0)) ((0 : Int).natAbs * 2 ^ k) (-(k : Int)) := by simp
theorem isW_0 : IsW (floatOfInt .f64 0) 0 := ⟨1074, read_fl0.trans (zero_shift 1074)⟩
theorem isW_fl (n : Int) (h : n.natAbs < 9007199254740992) : IsW (floatOfInt .f64 n) n := by
  by_cases h0 : n = 0
  · subst h0
    exact isW_0
  · refine ⟨52 - n.natAbs.log2, ?_⟩
    rw [read_fl n h0 h]
    have := log2_bd (by omega) h
    congr 1
    omega
theorem signed_w (n : Int) (k up : Nat) : signed (decide (n < 0)) (n.natAbs * 2 ^ k) up = n * 2 ^ (k + up) := by
  unfold signed
  rw [Nat.shiftLeft_eq, Nat.mul_assoc, ← Nat.pow_add]
  by_cases h : n < 0
  · rw [if_pos (by simpa using h)]
    have : (n.natAbs : Int) = -n := by omega
    push_cast
    rw [this]
    simp [Int.neg_mul]
  · rw [if_neg (by simpa using h)]
    have : (n.natAbs : Int) = n := by omega
    push_cast
    rw [this]
theorem compare_mul (a b : Int) (k : Nat) : compare (a * 2 ^ k) (b * 2 ^ k) = compare a b := by
  have hp : (0 : Int) < 2 ^ k := Int.pow_pos (by decide)
  rw [Int.compare_eq_ite_lt, Int.compare_eq_ite_lt]
  have e1 : (a * 2 ^ k < b * 2 ^ k) = (a < b) := propext ⟨fun h => Int.lt_of_mul_lt_mul_right h (Int.le_of_lt hp), fun h => Int.mul_lt_mul_of_pos_right h hp⟩
  have e2 : (b * 2 ^ k < a * 2 ^ k) = (b < a) := propext ⟨fun h => Int.lt_of_mul_lt_mul_right h (Int.le_of_lt hp), fun h => Int.mul_lt_mul_of_pos_right h hp⟩
  simp only [e1, e2]
theorem order_w {x y : Nat} {a b : Int} (hx : IsW x a) (hy : IsW y b) : FloatKind.f64.format.order x y = some (compare a b) := by
  obtain ⟨k, hk⟩ := hx
  obtain ⟨j, hj⟩ := hy
  show (double.read x).order (double.read y) = _
  rw [hk, hj]
  unfold Datum.order
  simp only [signed_w]
  have e : k + (-(k : Int) - min (-(k : Int)) (-(j : Int))).toNat = j + (-(j : Int) - min (-(k : Int)) (-(j : Int))).toNat := by omega
  rw [e, compare_mul]
theorem integral_w {x : Nat} {n : Int} (h : IsW x n) : (double.read x).integral .zero = .number (decide (n < 0)) n.natAbs 0 := by
  obtain ⟨k, hk⟩ := h
  rw [hk]
  unfold Datum.integral
  simp only
  congr 1
  have e1 : (-(k : Int)).toNat = 0 := by omega
  have e2 : (-(-(k : Int))).toNat = k := by omega
  rw [e1, e2]
  unfold Toward.cut
  simp only [Bool.toNat_false, Nat.add_zero, Nat.shiftLeft_eq, Nat.one_mul, Nat.pow_zero, Nat.mul_one]
  by_cases h0 : n.natAbs = 0
  · rw [h0]; simp
  · have hlog : k ≤ (n.natAbs * 2 ^ k).log2 + 2 := by
      have : 2 ^ k ≤ n.natAbs * 2 ^ k := by
        have := Nat.mul_le_mul_right (2 ^ k) (show 1 ≤ n.natAbs by omega)
        simpa using this
      have := (Nat.le_log2 (by have : 0 < n.natAbs * 2 ^ k := Nat.mul_pos (by omega) (Nat.pow_pos (by decide)); omega)).2 this
      omega
    rw [Nat.min_eq_left hlog, Nat.mul_div_cancel _ (Nat.pow_pos (by decide))]
theorem trunc_fl (P : Program) (n : Int) (h : n.natAbs < 9007199254740992) (w : World) :
    (Extern.MathFloor.toIntegral "math.archTrunc" .zero #[.float .f64 (floatOfInt .f64 n)]).run P w = .ok (.float .f64 (floatOfInt .f64 n)) w := by
  have hw := isW_fl n h
  have hi := integral_w hw
  obtain ⟨k, hk⟩ := hw
  rw [hk] at hi
  show (match double.read (floatOfInt .f64 n) with | .nan s t => _ | d => (pure (Value.float .f64 (FloatKind.f64.encode (d.integral .zero))) : Sem Value)).run P w = _
  rw [hk]
  simp only [hi]
  rfl
theorem toInt_fl (n : Int) (h : n.natAbs < 9007199254740992) : floatToIntVal .f64 (floatOfInt .f64 n) .i64 = some n := by
  have hi := integral_w (isW_fl n h)
  unfold floatToIntVal Datum.toInt
  simp only [FloatKind.decode, FloatKind.format]
  rw [hi]
  have e : signed (decide (n < 0)) n.natAbs 0 = n := by
    have := signed_w n 0 0
    simpa using this
  simp only [e]
  rw [if_pos (by rw [show IntKind.i64.min = -9223372036854775808 by decide, show IntKind.i64.max = 9223372036854775807 by decide]; omega)]
theorem fl_inj {a b : Int} (ha : a.natAbs < 9007199254740992) (hb : b.natAbs < 9007199254740992) (h : floatOfInt .f64 a = floatOfInt .f64 b) : a = b := by
  have := toInt_fl a ha
  rw [h, toInt_fl b hb] at this
  injection this with this
  exact this.symm
theorem fl_lo : floatOfInt .f64 (-1073741824) = 13965662444475908096 := by decide
theorem fl_hi : floatOfInt .f64 1073741824 = 4742290407621132288 := by decide
theorem fl_0 : floatOfInt .f64 0 = 0 := by decide
end Go.Proofs.YtlilfmpikampgaaGreatDoor

namespace Go.Proofs.YtlilfmpikampgaaGreatDoor
open Go

inductive T where
  | zero | nil | bool (b : Bool) | int (n : Int) | com (re im : Int) | atom (s : ByteArray) | pid (n g : Int) | ref (n : Int) | tup (k : Int) (l : List T)

def lst (s : ByteArray) : List UInt8 := s.data.toList
theorem lst_len (s : ByteArray) : (lst s).length = s.size := by simp only [lst, Array.length_toList]; rfl

def isPM (b : UInt8) : Bool := decide (b.toNat = 43) || decide (b.toNat = 45)
def isSg (b : UInt8) : Bool := decide (b.toNat = 123) || decide (b.toNat = 125) || decide (b.toNat = 91) || decide (b.toNat = 93) || decide (b.toNat = 44)

/-! ### How wide a token is -/
def otherW (r : List UInt8) : Nat :=
  if (r.head?.map isPM).getD false = true ∧ runOf isDig r.tail ≠ 0 ∧ r[1 + runOf isDig r.tail]? = some 105 then 1 + runOf isDig r.tail + 1 else 0
def numW (r : List UInt8) : Nat :=
  if r.head? = some 45 ∧ runOf isDig r.tail = 0 then 1 else 1 + runOf isDig r.tail + otherW (r.drop (1 + runOf isDig r.tail))
def pidW (r : List UInt8) : Nat :=
  if r[1 + runOf isDig r.tail]? = some 46 ∧ r[1 + runOf isDig r.tail + (1 + runOf isDig (r.drop (1 + runOf isDig r.tail + 1)))]? = some 62 then
    1 + runOf isDig r.tail + (1 + runOf isDig (r.drop (1 + runOf isDig r.tail + 1))) + 1 else 1
def wid (r : List UInt8) : Nat :=
  match r with
  | [] => 0
  | b :: t => if isSm b then runOf isWd (b :: t) else if isDig b || decide (b.toNat = 45) then numW (b :: t) else if b.toNat = 60 then pidW (b :: t) else if b.toNat = 35 then 1 + runOf isDig t else 1

theorem sm_wd {b : UInt8} (h : isSm b = true) : isWd b = true := by simp [isWd, h]
theorem otherW_le (r : List UInt8) : otherW r ≤ r.length := by
  unfold otherW
  split
  · rename_i h
    have := (List.getElem?_eq_some_iff.1 h.2.2).1
    omega
  · omega
theorem runOf_tail_le (p : UInt8 → Bool) (r : List UInt8) : runOf p r.tail ≤ r.length - 1 := by
  have := runOf_le p r.tail
  simpa using this
theorem numW_bd {r : List UInt8} (h : r ≠ []) : 1 ≤ numW r ∧ numW r ≤ r.length := by
  have h0 : 0 < r.length := List.length_pos_iff.2 h
  have h1 := runOf_tail_le isDig r
  unfold numW
  split
  · omega
  · have := otherW_le (r.drop (1 + runOf isDig r.tail))
    rw [List.length_drop] at this
    omega
theorem pidW_bd {r : List UInt8} (h : r ≠ []) : 1 ≤ pidW r ∧ pidW r ≤ r.length := by
  have h0 : 0 < r.length := List.length_pos_iff.2 h
  unfold pidW
  split
  · rename_i h
    have := (List.getElem?_eq_some_iff.1 h.2).1
    omega
  · omega
theorem wid_bd {r : List UInt8} (h : r ≠ []) : 1 ≤ wid r ∧ wid r ≤ r.length := by
  cases r with
  | nil => exact absurd rfl h
  | cons b t =>
    unfold wid
    simp only
    split
    · rename_i hs
      refine ⟨by rw [runOf_yes t (sm_wd hs)]; omega, runOf_le _ _⟩
    · split
      · exact numW_bd h
      · split
        · exact pidW_bd h
        · split
          · have := runOf_le isDig t
            simp; omega
          · simp

/-- Where the next token begins: the length of the text, if there is none. -/
def nxt (s : ByteArray) (i : Nat) : Nat := i + runOf isBl ((lst s).drop i)
theorem nxt_ge (s : ByteArray) (i : Nat) : i ≤ nxt s i := by unfold nxt; omega
theorem nxt_le (s : ByteArray) {i : Nat} (h : i ≤ s.size) : nxt s i ≤ s.size := by
  unfold nxt
  have := runOf_le isBl ((lst s).drop i)
  rw [List.length_drop, lst_len] at this
  omega
/-- Where the token that begins at a place ends. -/
def fin (s : ByteArray) (j : Nat) : Nat := j + wid ((lst s).drop j)
theorem drop_ne {s : ByteArray} {j : Nat} (h : j < s.size) : (lst s).drop j ≠ [] := by
  intro e
  have := congrArg List.length e
  rw [List.length_drop, lst_len] at this
  simp at this
  omega
theorem fin_bd {s : ByteArray} {j : Nat} (h : j < s.size) : j < fin s j ∧ fin s j ≤ s.size := by
  have := wid_bd (drop_ne h)
  rw [List.length_drop, lst_len] at this
  unfold fin
  omega

/-! ### What a token means -/
def atomOk (l : List UInt8) : Bool := !(decide (l = [])) && !(decide (l = [110, 105, 108])) && !(decide (l = [116, 114, 117, 101])) && !(decide (l = [102, 97, 108, 115, 101])) && decide (l.length ≤ 64) && (l.head?.map isSm).getD false && l.all isWd
def wordT (s : ByteArray) : Option T :=
  if lst s = [110, 105, 108] then some .nil else if lst s = [116, 114, 117, 101] then some (.bool true) else if lst s = [102, 97, 108, 115, 101] then some (.bool false) else if atomOk (lst s) then some (.atom s) else none
def okPid (n g : Int) : Bool := decide (0 ≤ n) && decide (n < 256) && (decide (1 ≤ g) && decide (g ≤ 4611686018427387903))
def okCnt (n : Int) : Bool := decide (1 ≤ n) && decide (n ≤ 4611686018427387903)
def okPart (n : Int) : Bool := decide (-1073741824 ≤ n) && decide (n ≤ 1073741824)
/-- The last sign of a number with two parts. -/
def lastPM (l : List UInt8) : Nat := l.length - 1 - runOf (fun b => !isPM b) l.reverse
def pidT (l : List UInt8) : Option T :=
  match numP (Lib.cut (Lib.trimSuffix l [62]) [46]).1, numP (Lib.cut (Lib.trimSuffix l [62]) [46]).2.1 with
  | some n, some g => if okPid n g then some (.pid n g) else none
  | _, _ => none
def refT (l : List UInt8) : Option T :=
  match numP l with
  | some n => if okCnt n then some (.ref n) else none
  | none => none
def comB (l : List UInt8) : List UInt8 := Lib.trimSuffix l [105]
def comT (l : List UInt8) : Option T :=
  match numP ((comB l).take (lastPM (comB l))), numP (Lib.trimPrefix ((comB l).drop (lastPM (comB l))) [43]) with
  | some a, some b => if okPart a && okPart b then some (.com a b) else none
  | _, _ => none
def intT (l : List UInt8) : Option T :=
  match numP l with
  | some n => if OkI n then some (.int n) else none
  | none => none
def lf (s : ByteArray) : Option T :=
  match lst s with
  | [] => none
  | c :: r => if isSm c then wordT s else if c.toNat = 60 then pidT r else if c.toNat = 35 then refT r else if Lib.hasSuffix (c :: r) [105] then comT (c :: r) else intT (c :: r)

inductive Tk where
  | bad | sign (b : UInt8) | term (t : T)
def tkAt (s : ByteArray) (j : Nat) : Tk :=
  match (lst s)[j]? with
  | none => .bad
  | some b => if isSg b then .sign b else match lf (s.extract j (fin s j)) with | some t => .term t | none => .bad

/-! ### The machine -/
structure Opn where
  k : Int
  items : List T
/-- Opened ones, the innermost ahead, and what can stand next: 0 a term, 1 a term or the end, 2 a comma or the end. -/
inductive MS where
  | go (stk : List Opn) (md : Nat)
  | whole (t : T)
def put (stk : List Opn) (t : T) : MS := match stk with | [] => .whole t | o :: r => .go (⟨o.k, o.items ++ [t]⟩ :: r) 2
def kOf (b : UInt8) : Int := if b.toNat = 123 ∨ b.toNat = 125 then 8 else 9
def mstep : MS → Tk → Option MS
  | .whole _, _ => none
  | .go _ _, .bad => none
  | .go stk md, .term t => if md = 2 then none else some (put stk t)
  | .go stk md, .sign b =>
    if b.toNat = 123 ∨ b.toNat = 91 then (if md = 2 then none else some (.go (⟨kOf b, []⟩ :: stk) 1))
    else if b.toNat = 44 then (if md = 2 then some (.go stk 0) else none)
    else if md = 0 then none else match stk with | [] => none | o :: r => if o.k = kOf b then some (put r (.tup o.k o.items)) else none
def run (s : ByteArray) (σ : MS) (i : Nat) : Except Nat (T × Nat) :=
  match σ with
  | .whole t => .ok (t, i)
  | .go stk md =>
    if _h : nxt s i < s.size then
      match mstep (.go stk md) (tkAt s (nxt s i)) with
      | none => .error (nxt s i)
      | some σ' => run s σ' (fin s (nxt s i))
    else .error s.size
termination_by s.size - i
decreasing_by
  have := fin_bd _h
  have := nxt_ge s i
  omega
theorem run_whole (s : ByteArray) (t : T) (i : Nat) : run s (.whole t) i = .ok (t, i) := by rw [run]
theorem run_end {s : ByteArray} {stk : List Opn} {md i : Nat} (h : ¬ nxt s i < s.size) : run s (.go stk md) i = .error s.size := by rw [run, dif_neg h]
theorem run_no {s : ByteArray} {stk : List Opn} {md i : Nat} (h : nxt s i < s.size) (hm : mstep (.go stk md) (tkAt s (nxt s i)) = none) : run s (.go stk md) i = .error (nxt s i) := by rw [run, dif_pos h]; simp only [hm]
theorem run_yes {s : ByteArray} {stk : List Opn} {md i : Nat} {σ' : MS} (h : nxt s i < s.size) (hm : mstep (.go stk md) (tkAt s (nxt s i)) = some σ') : run s (.go stk md) i = run s σ' (fin s (nxt s i)) := by rw [run, dif_pos h]; simp only [hm]

/-- What is read of a whole text: nothing may stand behind. -/
def pspec (s : ByteArray) (σ : MS) (i : Nat) : Except Nat T :=
  match run s σ i with
  | .error b => .error b
  | .ok (t, e) => if nxt s e < s.size then .error (nxt s e) else .ok t

/-! ### The tokens as a range over runes finds them -/
def blR (r : Nat) : Bool := decide (r = 32) || decide (r = 9) || decide (r = 10) || decide (r = 13)
theorem dec_pos (s : ByteArray) {pos : Nat} (h : pos < s.size) : 1 ≤ (Utf8.decode s pos).2 := by
  by_cases ha : (s[pos]'h).toNat < 128
  · rw [decode_ascii s pos h ha]
    exact Nat.le_refl _
  · exact (decode_high s pos h (by omega)).2
def ptk (s : ByteArray) (a e : Nat) : List Nat :=
  if _h : a < s.size then
    if a < e ∨ blR (Utf8.decode s a).1 = true then ptk s (a + (Utf8.decode s a).2) e
    else a :: ptk s (a + (Utf8.decode s a).2) (fin s a)
  else []
termination_by s.size - a
decreasing_by
  all_goals
    have := dec_pos s _h
    omega
theorem lst_at {s : ByteArray} {j : Nat} (h : j < s.size) : (lst s)[j]? = some (s[j]'h) := by
  rw [List.getElem?_eq_getElem (by rw [lst_len]; exact h)]
  rfl
theorem ptk_end {s : ByteArray} {a e : Nat} (h : ¬ a < s.size) : ptk s a e = [] := by rw [ptk, dif_neg h]
theorem ptk_in {s : ByteArray} {a : Nat} (e : Nat) (h : a < s.size) : ptk s a e = if a < e ∨ blR (Utf8.decode s a).1 = true then ptk s (a + (Utf8.decode s a).2) e else a :: ptk s (a + (Utf8.decode s a).2) (fin s a) := by rw [ptk, dif_pos h]
theorem ptk_free (s : ByteArray) : ∀ (n a e e' : Nat), s.size - a ≤ n → e ≤ a → e' ≤ a → ptk s a e = ptk s a e'
  | n, a, e, e', hn, h1, h2 => by
    by_cases h : a < s.size
    · rw [ptk_in e h, ptk_in e' h]
      have := dec_pos s h
      by_cases hb : blR (Utf8.decode s a).1 = true
      · rw [if_pos (.inr hb), if_pos (.inr hb)]
        cases n with
        | zero => omega
        | succ n => exact ptk_free s n _ e e' (by omega) (by omega) (by omega)
      · rw [if_neg (by rintro (h3 | h3); omega; exact hb h3), if_neg (by rintro (h3 | h3); omega; exact hb h3)]
    · rw [ptk_end h, ptk_end h]
theorem ptk_at (s : ByteArray) {a e : Nat} (h : e ≤ a) : ptk s a e = ptk s a a := ptk_free s (s.size - a) a e a (Nat.le_refl _) h (Nat.le_refl _)
theorem ptk_skip (s : ByteArray) (e : Nat) (he : e ≤ s.size) : ∀ (n a : Nat), e - a = n → a ≤ e → (∀ j b, a ≤ j → j < e → (lst s)[j]? = some b → b.toNat < 128) → ptk s a e = ptk s e e
  | 0, a, hn, ha, _ => by
    have : a = e := by omega
    rw [this]
  | n + 1, a, hn, ha, h => by
    have hlt : a < s.size := by omega
    have hb := h a _ (Nat.le_refl _) (by omega) (lst_at hlt)
    rw [ptk_in e hlt, if_pos (.inl (by omega)), decode_ascii s a hlt hb]
    exact ptk_skip s e he n (a + 1) (by omega) (by omega) (fun j b h1 h2 h3 => h j b (by omega) h2 h3)
theorem blR_of (b : UInt8) : blR b.toNat = isBl b := rfl
theorem isBl_ascii {b : UInt8} (h : isBl b = true) : b.toNat < 128 := by
  simp only [isBl, Bool.or_eq_true, decide_eq_true_eq] at h
  omega
theorem ptk_blanks (s : ByteArray) : ∀ (n i : Nat), s.size - i ≤ n → ptk s i i = ptk s (nxt s i) (nxt s i)
  | n, i, hn => by
    by_cases hi : i < s.size
    · have hd : (lst s).drop i = s[i]'hi :: (lst s).drop (i + 1) := by
        rw [List.drop_eq_getElem_cons (by rw [lst_len]; exact hi)]
        rfl
      by_cases hb : isBl (s[i]'hi) = true
      · have ha := isBl_ascii hb
        have e1 : nxt s i = nxt s (i + 1) := by unfold nxt; rw [hd, runOf_yes _ hb]; omega
        rw [ptk_in i hi, decode_ascii s i hi ha, if_pos (.inr (by rw [blR_of]; exact hb))]
        simp only
        rw [ptk_at s (Nat.le_succ i), e1]
        cases n with
        | zero => omega
        | succ n => exact ptk_blanks s n (i + 1) (by omega)
      · have hb' : isBl (s[i]'hi) = false := by simpa using hb
        have e1 : nxt s i = i := by unfold nxt; rw [hd, runOf_no _ hb']; rfl
        rw [e1]
    · have e1 : nxt s i = i := by
        unfold nxt
        rw [List.drop_eq_nil_of_le (by rw [lst_len]; omega)]
        rfl
      rw [e1]
theorem nxt_solid {s : ByteArray} {i : Nat} {b : UInt8} (h : (lst s)[nxt s i]? = some b) : isBl b = false := by
  have := runOf_stop (p := isBl) (l := (lst s).drop i) (b := b) (by rw [List.getElem?_drop]; exact h)
  exact this
theorem nxt_self {s : ByteArray} {j : Nat} {b : UInt8} (h : (lst s)[j]? = some b) (hb : isBl b = false) : nxt s j = j := by
  have hj := (List.getElem?_eq_some_iff.1 h).1
  unfold nxt
  rw [List.drop_eq_getElem_cons hj, runOf_no]
  · rfl
  · rw [List.getElem?_eq_getElem hj] at h
    injection h with h
    rw [h]; exact hb
end Go.Proofs.YtlilfmpikampgaaGreatDoor

namespace Go.Proofs.YtlilfmpikampgaaGreatDoor
open Go

theorem isDig_asc {b : UInt8} (h : isDig b = true) : b.toNat < 128 := by have := isDig_bd h; omega
theorem isWd_asc {b : UInt8} (h : isWd b = true) : b.toNat < 128 := by
  simp only [isWd, isSm, isDig, isCap, Bool.or_eq_true, Bool.and_eq_true, decide_eq_true_eq] at h
  omega
theorem isPM_asc {b : UInt8} (h : isPM b = true) : b.toNat < 128 := by
  simp only [isPM, Bool.or_eq_true, decide_eq_true_eq] at h
  omega
/-- All bytes ahead of a place are of ASCII. -/
def Asc (r : List UInt8) (k : Nat) : Prop := ∀ j b, j < k → r[j]? = some b → b.toNat < 128
theorem asc_run {p : UInt8 → Bool} (hp : ∀ b, p b = true → b.toNat < 128) (r : List UInt8) : Asc r (runOf p r) := by
  intro j b hj hb
  refine hp b (runOf_all (l := r) ?_)
  rw [List.mem_iff_getElem?]
  exact ⟨j, by rw [List.getElem?_take, if_pos hj]; exact hb⟩
theorem asc_cat {r : List UInt8} {a b : Nat} (h1 : Asc r a) (h2 : Asc (r.drop a) b) : Asc r (a + b) := by
  intro j c hj hc
  by_cases h : j < a
  · exact h1 j c h hc
  · exact h2 (j - a) c (by omega) (by rw [List.getElem?_drop, show a + (j - a) = j by omega]; exact hc)
theorem asc_one {r : List UInt8} (h : ∀ b, r.head? = some b → b.toNat < 128) : Asc r 1 := by
  intro j b hj hb
  have : j = 0 := by omega
  subst this
  exact h b (by rw [List.head?_eq_getElem?]; exact hb)
theorem asc_head {r : List UInt8} (h : ∀ b, r.head? = some b → b.toNat < 128) : Asc r (1 + runOf isDig r.tail) := by
  refine asc_cat (asc_one h) ?_
  rw [List.drop_one]
  exact asc_run (fun b hb => isDig_asc hb) _
theorem asc_other (r : List UInt8) : Asc r (otherW r) := by
  unfold otherW
  split
  · rename_i h
    refine asc_cat (asc_head (fun b hb => ?_)) (asc_one (fun b hb => ?_))
    · rw [hb] at h
      exact isPM_asc (by simpa using h.1)
    · rw [List.head?_drop, h.2.2] at hb
      injection hb with hb
      rw [← hb]
      decide
  · intro j b hj; omega
theorem asc_wid {r : List UInt8} {b : UInt8} (h : r.head? = some b) (hb : b.toNat < 128) : Asc r (wid r) := by
  have h' : ∀ c, r.head? = some c → c.toNat < 128 := fun c hc => by rw [h] at hc; injection hc with hc; rw [← hc]; exact hb
  cases r with
  | nil => cases h
  | cons c t =>
    unfold wid
    simp only
    split
    · exact asc_run (fun b hb => isWd_asc hb) _
    · split
      · unfold numW
        split
        · exact asc_one h'
        · exact asc_cat (asc_head h') (asc_other _)
      · split
        · unfold pidW
          split
          · rename_i h2
            refine asc_cat (asc_cat (asc_head h') ?_) (asc_one (fun b hb => ?_))
            · refine asc_cat (asc_one (fun b hb => ?_)) ?_
              · rw [List.head?_drop, h2.1] at hb
                injection hb with hb
                rw [← hb]; decide
              · rw [List.drop_drop]
                exact asc_run (fun b hb => isDig_asc hb) _
            · rw [List.head?_drop, h2.2] at hb
              injection hb with hb
              rw [← hb]; decide
          · exact asc_one h'
        · split
          · exact asc_head h'
          · exact asc_one h'

theorem lf_high {s : ByteArray} {b : UInt8} {r : List UInt8} (h : lst s = b :: r) (hb : 128 ≤ b.toNat) : lf s = none := by
  unfold lf
  rw [h]
  simp only
  have h1 : isSm b = false := by simp [isSm]; omega
  rw [h1, if_neg (by simp), if_neg (by omega), if_neg (by omega)]
  have hn : ∀ l, numP (b :: l) = none := fun l => numP_none (fun hc => by
    have := isDig_bd (hc.2.1 b (by simp))
    omega) (fun r' e => by
    injection e with e
    rw [e] at hb
    have : (45 : UInt8).toNat = 45 := rfl
    omega)
  split
  · unfold comT
    have hne : comB (b :: r) = [] ∨ ∃ r', comB (b :: r) = b :: r' := by
      by_cases hx : Lib.hasSuffix (b :: r) [105] = true
      · have e : comB (b :: r) = (b :: r).take ((b :: r).length - [(105 : UInt8)].length) := by unfold comB Lib.trimSuffix; rw [if_pos hx]
        rw [e]
        cases hk : (b :: r).length - [(105 : UInt8)].length with
        | zero => exact .inl (by simp)
        | succ k => exact .inr ⟨r.take k, by simp⟩
      · have e : comB (b :: r) = b :: r := by unfold comB Lib.trimSuffix; rw [if_neg hx]
        exact .inr ⟨r, e⟩
    rcases hne with e | ⟨r', e⟩
    · rw [e]; rfl
    · rw [e]
      cases hk : lastPM (b :: r') with
      | zero =>
        rw [show numP ((b :: r').take 0) = none from rfl]
      | succ k => rw [List.take_succ_cons, hn]
  · unfold intT
    rw [hn]

theorem ext_lst (s : ByteArray) (i j : Nat) : lst (s.extract i j) = ((lst s).drop i).take (j - i) := by
  simp [lst]
theorem tk_high {s : ByteArray} {j : Nat} {b : UInt8} (h : (lst s)[j]? = some b) (hb : 128 ≤ b.toNat) : tkAt s j = .bad := by
  unfold tkAt
  rw [h]
  simp only
  have h1 : isSg b = false := by simp [isSg]; omega
  rw [h1, if_neg (by simp)]
  have hj := (List.getElem?_eq_some_iff.1 h).1
  have hf := fin_bd (s := s) (j := j) (by rw [← lst_len]; exact hj)
  have hl : lst (s.extract j (fin s j)) = b :: ((lst s).drop (j + 1)).take (fin s j - j - 1) := by
    rw [ext_lst, List.drop_eq_getElem_cons hj]
    rw [List.getElem?_eq_getElem hj] at h
    injection h with h
    rw [h, show fin s j - j = (fin s j - j - 1) + 1 by omega, List.take_succ_cons]
    rfl
  rw [lf_high hl hb]
theorem step_bad (σ : MS) : mstep σ .bad = none := by cases σ <;> rfl

/-- The tokens from a place on, one by one, up to the first that is none. -/
theorem ptk_next (s : ByteArray) {i : Nat} (_hi : i ≤ s.size) :
    (¬ nxt s i < s.size ∧ ptk s i i = []) ∨ (nxt s i < s.size ∧ ((tkAt s (nxt s i) = .bad ∧ ∃ r, ptk s i i = nxt s i :: r) ∨ ptk s i i = nxt s i :: ptk s (fin s (nxt s i)) (fin s (nxt s i)))) := by
  rw [ptk_blanks s _ i (Nat.le_refl _)]
  by_cases h : nxt s i < s.size
  · refine .inr ⟨h, ?_⟩
    have hb := lst_at h
    have hsol := nxt_solid hb
    generalize nxt s i = j at h hb hsol
    have hf := fin_bd h
    by_cases ha : (s[j]'h).toNat < 128
    · refine .inr ?_
      rw [ptk_in j h, decode_ascii s j h ha, if_neg (by rw [blR_of]; simp [hsol])]
      simp only
      congr 1
      refine ptk_skip s (fin s j) hf.2 _ (j + 1) rfl (by omega) (fun q b h1 h2 h3 => ?_)
      refine asc_wid (r := (lst s).drop j) (b := s[j]'h) ?_ ha (q - j) b (by unfold fin at h2; omega) (by rw [List.getElem?_drop, show j + (q - j) = q by omega]; exact h3)
      rw [List.head?_drop]; exact hb
    · suffices hn : ¬ (j < j ∨ blR (Utf8.decode s j).1 = true) from .inl ⟨tk_high hb (by omega), _, by rw [ptk_in j h, if_neg hn]⟩
      rintro (h1 | h1)
      · omega
      · have := (decode_high s j h (by omega)).1
        simp only [blR, Bool.or_eq_true, decide_eq_true_eq] at h1
        omega
  · exact .inl ⟨h, ptk_end h⟩

def steps (s : ByteArray) : MS → List Nat → Option MS
  | σ, [] => some σ
  | σ, j :: r => match mstep σ (tkAt s j) with | none => none | some σ' => steps s σ' r
theorem steps_snoc (s : ByteArray) (l : List Nat) (j : Nat) : ∀ σ, steps s σ (l ++ [j]) = match steps s σ l with | none => none | some σ' => mstep σ' (tkAt s j) := by
  induction l with
  | nil => intro σ; simp only [List.nil_append, steps]; cases mstep σ (tkAt s j) <;> rfl
  | cons x l ih =>
    intro σ
    simp only [List.cons_append, steps]
    cases mstep σ (tkAt s x) with
    | none => rfl
    | some σ' => exact ih σ'
theorem steps_whole {s : ByteArray} {t : T} {l : List Nat} {σ : MS} (h : steps s (.whole t) l = some σ) : l = [] ∧ σ = .whole t := by
  cases l with
  | nil => simp only [steps] at h; injection h with h; exact ⟨rfl, h.symm⟩
  | cons j l => simp [steps, mstep] at h

/-- Where a token is refused. -/
theorem read_no (s : ByteArray) : ∀ (pre : List Nat) (σ : MS) (i j : Nat) (rest : List Nat) (σ' : MS), i ≤ s.size → ptk s i i = pre ++ j :: rest → steps s σ pre = some σ' → mstep σ' (tkAt s j) = none →
    pspec s σ i = .error j ∧ ((∃ stk md, σ' = .go stk md) → run s σ i = .error j)
  | [], σ, i, j, rest, σ', hi, hp, hs, hm => by
    simp only [steps] at hs
    injection hs with hs
    subst hs
    have hj : nxt s i < s.size ∧ j = nxt s i := by
      rcases ptk_next s hi with ⟨_, h⟩ | ⟨h, ⟨_, r, h2⟩ | h2⟩
      · rw [h] at hp; simp at hp
      · rw [h2] at hp; simp at hp; exact ⟨h, hp.1.symm⟩
      · rw [h2] at hp; simp at hp; exact ⟨h, hp.1.symm⟩
    obtain ⟨h1, rfl⟩ := hj
    cases σ with
    | whole t =>
      refine ⟨?_, by rintro ⟨_, _, e⟩; cases e⟩
      unfold pspec
      rw [run_whole]
      simp only
      rw [if_pos h1]
    | go stk md =>
      have := run_no h1 hm
      exact ⟨by unfold pspec; rw [this], fun _ => this⟩
  | x :: pre, σ, i, j, rest, σ', hi, hp, hs, hm => by
    cases σ with
    | whole t =>
      have := (steps_whole hs).1
      cases this
    | go stk md =>
      simp only [steps] at hs
      cases h1 : mstep (.go stk md) (tkAt s x) with
      | none => rw [h1] at hs; cases hs
      | some σ1 =>
        rw [h1] at hs
        simp only at hs
        rcases ptk_next s hi with ⟨_, h⟩ | ⟨h, ⟨hb, r, h2⟩ | h2⟩
        · rw [h] at hp; simp at hp
        · rw [h2] at hp
          simp at hp
          rw [← hp.1, hb, step_bad] at h1
          cases h1
        · rw [h2] at hp
          simp only [List.cons_append, List.cons.injEq] at hp
          obtain ⟨hx, hp⟩ := hp
          subst hx
          have hf := fin_bd h
          obtain ⟨k1, k2⟩ := read_no s pre σ1 (fin s (nxt s i)) j rest σ' hf.2 hp hs hm
          have hr := run_yes h h1
          exact ⟨by unfold pspec at k1 ⊢; rw [hr]; exact k1, fun hg => by rw [hr]; exact k2 hg⟩
/-- Where the text ends. -/
theorem read_end (s : ByteArray) : ∀ (pre : List Nat) (σ : MS) (i : Nat) (σ' : MS), i ≤ s.size → ptk s i i = pre → steps s σ pre = some σ' →
    (∀ t, σ' = .whole t → pspec s σ i = .ok t) ∧ (∀ stk md, σ' = .go stk md → pspec s σ i = .error s.size ∧ run s σ i = .error s.size)
  | [], σ, i, σ', hi, hp, hs => by
    simp only [steps] at hs
    injection hs with hs
    subst hs
    have hj : ¬ nxt s i < s.size := by
      rcases ptk_next s hi with ⟨h, _⟩ | ⟨h, ⟨_, r, h2⟩ | h2⟩
      · exact h
      · rw [h2] at hp; cases hp
      · rw [h2] at hp; cases hp
    refine ⟨fun t e => ?_, fun stk md e => ?_⟩
    · subst e
      unfold pspec
      rw [run_whole]
      simp only
      rw [if_neg hj]
    · subst e
      have := run_end (stk := stk) (md := md) hj
      exact ⟨by unfold pspec; rw [this], this⟩
  | x :: pre, σ, i, σ', hi, hp, hs => by
    cases σ with
    | whole t =>
      have := (steps_whole hs).1
      cases this
    | go stk md =>
      simp only [steps] at hs
      cases h1 : mstep (.go stk md) (tkAt s x) with
      | none => rw [h1] at hs; cases hs
      | some σ1 =>
        rw [h1] at hs
        simp only at hs
        rcases ptk_next s hi with ⟨_, h⟩ | ⟨h, ⟨hb, r, h2⟩ | h2⟩
        · rw [h] at hp; cases hp
        · rw [h2] at hp
          simp at hp
          rw [← hp.1, hb, step_bad] at h1
          cases h1
        · rw [h2] at hp
          simp only [List.cons.injEq] at hp
          obtain ⟨hx, hp⟩ := hp
          subst hx
          have hf := fin_bd h
          have hr := run_yes h h1
          obtain ⟨k1, k2⟩ := read_end s pre σ1 (fin s (nxt s i)) σ' hf.2 hp hs
          refine ⟨fun t e => ?_, fun stk md e => ?_⟩
          · unfold pspec at k1 ⊢; rw [hr]; exact k1 t e
          · have := k2 stk md e
            unfold pspec at this ⊢; rw [hr]; exact this
/-- Where the term is whole. -/
theorem read_head (s : ByteArray) : ∀ (pre : List Nat) (σ : MS) (i j : Nat) (rest : List Nat) (t : T), i ≤ s.size → ptk s i i = pre ++ j :: rest → steps s σ (pre ++ [j]) = some (.whole t) → run s σ i = .ok (t, fin s j)
  | [], σ, i, j, rest, t, hi, hp, hs => by
    have hj : nxt s i < s.size ∧ j = nxt s i := by
      rcases ptk_next s hi with ⟨_, h⟩ | ⟨h, ⟨_, r, h2⟩ | h2⟩
      · rw [h] at hp; simp at hp
      · rw [h2] at hp; simp at hp; exact ⟨h, hp.1.symm⟩
      · rw [h2] at hp; simp at hp; exact ⟨h, hp.1.symm⟩
    obtain ⟨h1, rfl⟩ := hj
    cases σ with
    | whole t' =>
      have := (steps_whole hs).1
      cases this
    | go stk md =>
      simp only [List.nil_append, steps] at hs
      cases h2 : mstep (.go stk md) (tkAt s (nxt s i)) with
      | none => rw [h2] at hs; cases hs
      | some σ1 =>
        rw [h2] at hs
        simp only at hs
        injection hs with hs
        subst hs
        rw [run_yes h1 h2, run_whole]
  | x :: pre, σ, i, j, rest, t, hi, hp, hs => by
    cases σ with
    | whole t' =>
      have := (steps_whole hs).1
      cases this
    | go stk md =>
      simp only [List.cons_append, steps] at hs
      cases h1 : mstep (.go stk md) (tkAt s x) with
      | none => rw [h1] at hs; cases hs
      | some σ1 =>
        rw [h1] at hs
        simp only at hs
        rcases ptk_next s hi with ⟨_, h⟩ | ⟨h, ⟨hb, r, h2⟩ | h2⟩
        · rw [h] at hp; simp at hp
        · rw [h2] at hp
          simp at hp
          rw [← hp.1, hb, step_bad] at h1
          cases h1
        · rw [h2] at hp
          simp only [List.cons_append, List.cons.injEq] at hp
          obtain ⟨hx, hp⟩ := hp
          subst hx
          have hf := fin_bd h
          rw [run_yes h h1]
          exact read_head s pre σ1 (fin s (nxt s i)) j rest t hf.2 hp hs
end Go.Proofs.YtlilfmpikampgaaGreatDoor

namespace Go.Proofs.YtlilfmpikampgaaGreatDoor
open Go

def sgn (l : List UInt8) : Bool := decide (l.head? = some 45)
def dgs (l : List UInt8) : List UInt8 := if sgn l then l.tail else l
/-- The form of a number that is read, its size aside. -/
structure Pass (l : List UInt8) : Prop where
  can : Can (dgs l)
  neg : sgn l = true → dgs l ≠ [48]
  le : (dgs l).length ≤ 19
theorem dgs_plain {l : List UInt8} (h : Can l) : sgn l = false ∧ dgs l = l := by
  obtain ⟨c, r, rfl, _, h45⟩ := can_head h
  have : sgn (c :: r) = false := by
    unfold sgn
    rw [decide_eq_false_iff_not]
    intro e
    injection e with e
    exact h45 (by rw [e]; rfl)
  exact ⟨this, by simp [dgs, this]⟩
theorem dgs_neg (r : List UInt8) : sgn (45 :: r) = true ∧ dgs (45 :: r) = r := by
  have : sgn (45 :: r) = true := by simp [sgn]
  exact ⟨this, by simp [dgs, this]⟩
theorem short_of {l : List UInt8} (h : Can l) (hv : dv 0 l ≤ 4611686018427387903) : l.length ≤ 19 := by
  by_cases h1 : 20 ≤ l.length
  · have := can_long h h1; omega
  · omega
theorem sgn_split {l : List UInt8} (h : sgn l = true) : l = 45 :: dgs l := by
  have h1 : l.head? = some 45 := by simpa [sgn] using h
  cases l with
  | nil => cases h1
  | cons c r =>
    injection h1 with h1
    subst h1
    rw [(dgs_neg r).2]
theorem ref_no {l : List UInt8} (h : ¬ (Pass l ∧ dv 0 (dgs l) ≤ 4611686018427387903)) : refN l = none := by
  cases hr : refN l with
  | none => rfl
  | some v =>
    exfalso
    obtain ⟨h1, h2⟩ := refN_some.1 hr
    rw [okI] at h2
    rcases numP_shape h1 with ⟨hc, hv⟩ | ⟨r, rfl, hc, h48, hv⟩
    · obtain ⟨e1, e2⟩ := dgs_plain hc
      exact h ⟨⟨by rw [e2]; exact hc, (by rw [e1]; intro e; cases e), by rw [e2]; exact short_of hc (by omega)⟩, by rw [e2]; omega⟩
    · obtain ⟨e1, e2⟩ := dgs_neg r
      exact h ⟨⟨by rw [e2]; exact hc, fun _ => by rw [e2]; exact h48, by rw [e2]; exact short_of hc (by omega)⟩, by rw [e2]; omega⟩
theorem ref_yes {l : List UInt8} (h : Pass l) (hv : dv 0 (dgs l) ≤ 4611686018427387903) : refN l = some (if sgn l then -(dv 0 (dgs l) : Int) else (dv 0 (dgs l) : Int)) := by
  obtain ⟨h1, h2, h3⟩ := h
  rw [refN_some]
  by_cases hs : sgn l = true
  · rw [if_pos hs]
    have e := sgn_split hs
    refine ⟨?_, by rw [okI]; omega⟩
    have := numP_neg h1 (h2 hs) (by omega)
    rw [← e] at this
    exact this
  · have hs' : sgn l = false := by simpa using hs
    rw [if_neg hs]
    have e : dgs l = l := by simp [dgs, hs']
    rw [e] at h1 hv ⊢
    exact ⟨numP_can h1 (by omega), by rw [okI]; omega⟩
theorem dv_app (acc : Nat) (a b : List UInt8) : dv acc (a ++ b) = dv (dv acc a) b := by simp [dv, List.foldl_append]
theorem dv_take (l : List UInt8) (k : Nat) : dv 0 (l.take k) ≤ dv 0 l := by
  have := dv_ge (l.drop k) (dv 0 (l.take k))
  rw [← dv_app, List.take_append_drop] at this
  exact this
theorem dv_step {l : List UInt8} {k : Nat} {b : UInt8} (h : l[k]? = some b) : dv 0 (l.take (k + 1)) = dv 0 (l.take k) * 10 + (b.toNat - 48) := by
  rw [List.take_add_one, h]
  exact dv_snoc 0 _ _
/-- In what order the document asks. -/
theorem pass_of {l : List UInt8} (h1 : dgs l ≠ []) (h2 : ∀ c ∈ dgs l, isDig c = true) (h3 : (dgs l).head? = some 48 → (dgs l).length ≤ 1 ∧ sgn l = false) (h4 : (dgs l).length ≤ 19) : Pass l := by
  refine ⟨⟨h1, h2, fun h => ?_⟩, fun hs e => ?_, h4⟩
  · have := (h3 h).1
    have := List.length_pos_iff.2 h1
    omega
  · have := (h3 (by rw [e]; rfl)).2
    rw [hs] at this
    cases this
theorem all_dig {l : List UInt8} : runOf isDig l = l.length → ∀ c ∈ l, isDig c = true := by
  intro h c hc
  refine runOf_all (l := l) ?_
  rw [h, List.take_length]
  exact hc
theorem dig_all {l : List UInt8} (h : ∀ c ∈ l, isDig c = true) : runOf isDig l = l.length :=
  runOf_of (fun j b _ hb => h b (List.mem_of_getElem? hb)) (fun b hb => by rw [List.getElem?_eq_none (Nat.le_refl _)] at hb; cases hb) (Nat.le_refl _)
end Go.Proofs.YtlilfmpikampgaaGreatDoor
