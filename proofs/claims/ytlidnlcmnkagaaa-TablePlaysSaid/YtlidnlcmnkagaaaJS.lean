/- Load of what a table tells: the table. -/
import Derived.Test.YtlidnlcmnkagaaaJR
namespace Go.Proofs.Ytlidnlcmnkagaaa
open Go.RowKit

abbrev halfT (T : List Pl) (i : Nat) : List Pl := T.take i ++ genT ((hads T).drop i)
theorem half_lo {T : List Pl} {i j : Nat} (h : j < i) (hi : i ≤ T.length) : (halfT T i)[j]? = T[j]? := by
  rw [List.getElem?_append_left (by simp; omega), List.getElem?_take, if_pos h]
theorem half_hi {T : List Pl} {i j : Nat} (h : i ≤ j) (hi : i ≤ T.length) : (halfT T i)[j]? = T[j]?.map fun x => ⟨x.had, false, E0b⟩ := by
  rw [List.getElem?_append_right (by simp; omega)]
  simp only [genT, List.getElem?_map, List.getElem?_drop, hads]
  rw [show i + (j - (T.take i).length) = j by simp; omega]
  cases T[j]? <;> rfl
theorem half_len (T : List Pl) (i : Nat) (hi : i ≤ T.length) : (halfT T i).length = T.length := by simp; omega
theorem half_step {T : List Pl} {i : Nat} {x : Pl} (hx : T[i]? = some x) : (halfT T i).set i x = halfT T (i + 1) := by
  have hi := (List.getElem?_eq_some_iff.1 hx).1
  apply List.ext_getElem?
  intro j
  rw [List.getElem?_set, half_len T i (by omega)]
  by_cases e : i = j
  · subst e
    rw [if_pos rfl, if_pos hi, half_lo (by omega) (by omega), hx]
  · rw [if_neg e]
    by_cases h : j < i
    · rw [half_lo h (by omega), half_lo (by omega) (by omega)]
    · rw [half_hi (by omega) (by omega), half_hi (by omega) (by omega)]
theorem nameOf_at {T : List Pl} {i : Nat} {x : Pl} (hx : T[i]? = some x) (ha : x.al = true) : nameOfF T ⟨i, x.had⟩ = x.nm := by
  unfold nameOfF
  rw [find_mk (p := ⟨(i : Nat), x.had⟩) (x := x) (by show (0 : Int) ≤ (i : Int); omega) (by show T[((i : Int)).toNat]? = _; rw [Int.toNat_natCast]; exact hx) ha rfl]
theorem loadGo_tells {T : List Pl} (ok : TOk T) : ∀ (m i : Nat) (ahead : Int), i + m = T.length → ahead < (i : Int) → loadGo (hads T) ((pidsG i (T.drop i)).zip ((pidsG i (T.drop i)).map (nameOfF T))) ahead (halfT T i) = some T
  | 0, i, ahead, hm, _ => by
    have e : i = T.length := by omega
    subst e
    rw [List.drop_length]
    show some (T.take T.length ++ genT ((hads T).drop T.length)) = some T
    rw [List.take_length, List.drop_of_length_le (by simp)]
    simp [genT]
  | m + 1, i, ahead, hm, ha => by
    obtain ⟨x, hx⟩ := some_at (show i < T.length by omega)
    have hd : T.drop i = x :: T.drop (i + 1) := by
      rw [List.drop_eq_getElem_cons (by omega), (List.getElem?_eq_some_iff.1 hx).2]
    have IH := loadGo_tells ok m (i + 1)
    have hb := ok.bd i x hx
    rw [hd]
    cases hal : x.al with
    | false =>
      have e0 : halfT T i = halfT T (i + 1) := by
        rw [← half_step hx]
        refine (set_same ?_).symm
        rw [half_hi (Nat.le_refl _) (by omega), hx]
        have h3 := hb.2.2.1 hal
        obtain ⟨xh, xa, xn⟩ := x
        simp only at hal h3
        subst hal h3
        rfl
      rw [show pidsG i (x :: T.drop (i + 1)) = pidsG (i + 1) (T.drop (i + 1)) from if_neg (by simp [hal]), e0]
      exact IH ahead (by omega) (by omega)
    | true =>
      rw [show pidsG i (x :: T.drop (i + 1)) = ⟨i, x.had⟩ :: pidsG (i + 1) (T.drop (i + 1)) from if_pos hal]
      simp only [List.map_cons, List.zip_cons_cons, loadGo]
      have hs : loadS (hads T) ahead (halfT T i) ⟨i, x.had⟩ (nameOfF T ⟨i, x.had⟩) = some (halfT T (i + 1)) := by
        rw [nameOf_at hx hal]
        have hc : ¬ ((i : Int) ≤ ahead ∨ ((hads T).length : Int) ≤ (i : Int) ∨ x.had < 1 ∨ (hads T)[((i : Int)).toNat]? ≠ some x.had) := by
          rintro (h | h | h | h)
          · omega
          · rw [List.length_map] at h; omega
          · have := hb.2.1 hal; omega
          · exact h (by rw [Int.toNat_natCast]; exact had_at hx)
        have hset : (halfT T i).set i ⟨x.had, true, x.nm⟩ = halfT T (i + 1) := by
          rw [← half_step hx]
          obtain ⟨xh, xa, xn⟩ := x
          simp only at hal
          subst hal
          rfl
        unfold loadS
        rw [if_neg hc]
        by_cases hn : x.nm = E0b
        · rw [if_pos hn, ← hset, hn]
          simp
        · rw [if_neg hn, if_pos, ← hset]
          · simp
          · refine ⟨(hb.2.2.2.resolve_left hn), ?_⟩
            show whereG 0 (halfT T i) x.nm = none
            cases hw : whereG 0 (halfT T i) x.nm with
            | none => rfl
            | some q =>
              obtain ⟨_, j, y, hy, hya, hyn, _⟩ := (whereG_spec (halfT T i) 0).1 q hw
              by_cases hj : j < i
              · rw [half_lo hj (by omega)] at hy
                exact absurd (ok.un j i y x hy hx (by rw [hyn]; exact hn) hyn) (by omega)
              · rw [half_hi (by omega) (by omega)] at hy
                cases hT : T[j]? with
                | none => rw [hT] at hy; cases hy
                | some z =>
                  rw [hT] at hy
                  injection hy with hy
                  subst hy
                  cases hya
      rw [hs]
      exact IH (i : Int) (by omega) (by omega)
theorem load_tells {T : List Pl} (ok : TOk T) : loadF (hads T) (pidsF T) (namesF T) = some T := by
  unfold loadF
  have hl := ok.len
  have hall : (hads T).all okGen = true := by
    refine List.all_eq_true.2 fun g hg => ?_
    obtain ⟨x, hx, rfl⟩ := List.mem_map.1 hg
    obtain ⟨i, hi⟩ := List.mem_iff_getElem?.1 hx
    have := (ok.bd i x hi).1
    simp only [okGen, Bool.and_eq_true, decide_eq_true_eq]
    exact this
  rw [if_pos ⟨by rw [List.length_map]; exact hl, by simp, hall⟩]
  exact loadGo_tells ok T.length 0 (-1) (by omega) (by omega)
end Go.Proofs.Ytlidnlcmnkagaaa
