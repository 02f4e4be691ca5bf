/- The document's At: any token. -/
import Derived.Test.YtlpafnibcmcjgaaGreatDoorDa
import Derived.Test.YtlpafnibcmcjgaaGreatDoorDb
import Derived.Test.YtlpafnibcmcjgaaGreatDoorDc
namespace Go.Proofs.YtlpafnibcmcjgaaGreatDoor
open Go.RowKit

theorem at_any (s : ByteArray) (i : Nat) (w : World) (hs : s.size ≤ 262144) (hi : i ≤ s.size) :
    Calls Tryz.prog 20 #[.string s, .int .i64 i] w fun v w' => AtE s (nxt s i) v ∧ Only [] w w' := by
  have hij := nxt_ge s i
  have hjl := nxt_le s hi
  have HBL : Hid (∀ p, i ≤ p → p < nxt s i → ∃ hp : p < s.size, isBl (s[p]'hp) = true) := Lib.hid (fun p h1 h2 => nxt_blank h1 h2)
  by_cases hj : nxt s i < s.size
  · have hbl : isBl (s[nxt s i]'hj) = false := nxt_solid (lst_at hj)
    have fin : ∀ {v : Ending} {w' : World}, TokE s (nxt s i) v ∧ Only [] w w' → AtE s (nxt s i) v ∧ Only [] w w' := fun h => ⟨atE_of hj h.1, h.2⟩
    generalize nxt s i = j at *
    cases h0 : isSg (s[j]'hj) with
    | true =>
      have h0' : (s[j]'hj).toNat = 123 ∨ (s[j]'hj).toNat = 125 ∨ (s[j]'hj).toNat = 91 ∨ (s[j]'hj).toNat = 93 ∨ (s[j]'hj).toNat = 44 := by
        simp only [isSg, Bool.or_eq_true, decide_eq_true_eq] at h0
        omega
      rcases h0' with h | h | h | h | h
      · exact (at_sign123 s i j w hs hij HBL hj hbl h).mono fun _ _ h => fin h
      · exact (at_sign125 s i j w hs hij HBL hj hbl h).mono fun _ _ h => fin h
      · exact (at_sign91 s i j w hs hij HBL hj hbl h).mono fun _ _ h => fin h
      · exact (at_sign93 s i j w hs hij HBL hj hbl h).mono fun _ _ h => fin h
      · exact (at_sign44 s i j w hs hij HBL hj hbl h).mono fun _ _ h => fin h
    | false =>
      cases h1 : isSm (s[j]'hj) with
      | true => exact (at_word s i j w hs hij HBL hj hbl h1).mono fun _ _ h => fin h
      | false =>
        cases h2 : isDig (s[j]'hj) with
        | true => exact (at_digit s i j w hs hij HBL hj hbl h2).mono fun _ _ h => fin h
        | false =>
          by_cases h3 : (s[j]'hj).toNat = 45
          · exact (at_minus s i j w hs hij HBL hj hbl h3).mono fun _ _ h => fin h
          · by_cases h4 : (s[j]'hj).toNat = 35
            · exact (at_ref s i j w hs hij HBL hj hbl h4).mono fun _ _ h => fin h
            · by_cases h5 : (s[j]'hj).toNat = 60
              · exact (at_pid s i j w hs hij HBL hj hbl h5).mono fun _ _ h => fin h
              · exact (at_none s i j w hs hij HBL hj hbl h0 h1 h2 ⟨h3, h4, h5⟩).mono fun _ _ h => fin h
  · exact (at_end s i (nxt s i) w hs hij HBL (by omega)).mono fun v w' h => ⟨by unfold AtE; rw [if_neg hj]; exact h.1, h.2⟩
end Go.Proofs.YtlpafnibcmcjgaaGreatDoor
