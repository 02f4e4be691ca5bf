/- The program's accounts are accounts (AccRep); its Mod is Euclid's remainder (ModOk); the laws HomeMod and HomeKeeps. -/
import Derived.Test.YtcchahgfjnphgaaAc5
namespace Go.Proofs.Ytcchahgfjnphgaa
open Go.RowKit
set_option maxRecDepth 20000

/-- u holds the counts C. -/
def CnIs (n : Nat) (C : Cn) (u : Nat → Int) : Prop := ∀ k c, k < n → c < 3 → C k c = u (k * 3 + c)
theorem CnIs.upd {n : Nat} {C : Cn} {u : Nat → Int} (h : CnIs n C u) {k c : Nat} (hc : c < 3) (v : Int) : CnIs n (upd C k c v) (updU u (k * 3 + c) v) := fun k' c' hk' hc' => by
  unfold Go.Proofs.Ytcchahgfjnphgaa.upd updU
  by_cases e : k' = k ∧ c' = c
  · rw [if_pos e, if_pos (by rw [e.1, e.2])]
  · rw [if_neg e, if_neg (by omega)]
    exact h k' c' hk' hc'
theorem withF_in {u : Nat → Int} {i : Nat} {n : Int} (h : 0 ≤ u i + n ∧ u i + n ≤ 64) : withF u i n = (updU u i (u i + n), 0) := if_pos h
theorem withF_low {u : Nat → Int} {i : Nat} {n : Int} (h : ¬ (0 ≤ u i + n ∧ u i + n ≤ 64)) (hn : n < 0) : withF u i n = (fun _ => 0, 3) := by
  unfold withF
  rw [if_neg h, if_pos hn]
theorem withF_high {u : Nat → Int} {i : Nat} {n : Int} (h : ¬ (0 ≤ u i + n ∧ u i + n ≤ 64)) (hn : ¬ n < 0) : withF u i n = (fun _ => 0, 170) := by
  unfold withF
  rw [if_neg h, if_neg hn]
theorem take_is {n : Nat} {C : Cn} {u : Nat → Int} (h : CnIs n C u) (hu : InU u) (hn : n ≤ 16) (k c : Int) : (takeF n C k c).2 = (turnU n u k c 1).2 ∧ CnIs n (takeF n C k c).1 (turnU n u k c 1).1 := by
  unfold takeF turnU
  by_cases ha : isAt n k c
  · rw [if_pos ha, if_pos ha]
    unfold isAt at ha
    have e := h k.toNat c.toNat (by omega) (by omega)
    have b := hu (k.toNat * 3 + c.toNat) (by omega)
    rw [e]
    by_cases h1 : u (k.toNat * 3 + c.toNat) < 64
    · rw [if_pos h1, withF_in (by omega), if_pos rfl]
      exact ⟨rfl, h.upd (by omega) _⟩
    · rw [if_neg h1, withF_high (by omega) (by omega), if_neg (by decide)]
      exact ⟨rfl, h⟩
  · rw [if_neg ha, if_neg ha]
    exact ⟨rfl, h⟩
theorem give_is {n : Nat} {C : Cn} {u : Nat → Int} (h : CnIs n C u) (hu : InU u) (hn : n ≤ 16) (k c : Int) : (giveF n C k c).2 = (turnU n u k c (-1)).2 ∧ CnIs n (giveF n C k c).1 (turnU n u k c (-1)).1 := by
  unfold giveF turnU
  by_cases ha : isAt n k c
  · rw [if_pos ha, if_pos ha]
    unfold isAt at ha
    have e := h k.toNat c.toNat (by omega) (by omega)
    have b := hu (k.toNat * 3 + c.toNat) (by omega)
    rw [e]
    by_cases h1 : 0 < u (k.toNat * 3 + c.toNat)
    · rw [if_pos h1, withF_in (by omega), if_pos rfl]
      exact ⟨rfl, h.upd (by omega) _⟩
    · rw [if_neg h1, withF_low (by omega) (by omega), if_neg (by decide)]
      exact ⟨rfl, h⟩
  · rw [if_neg ha, if_neg ha]
    exact ⟨rfl, h⟩
theorem move_is {n : Nat} {C : Cn} {u : Nat → Int} (h : CnIs n C u) (hu : InU u) (hn : n ≤ 16) (k t c m : Int) : (moveF n C k t c m).2 = (moveU n u k t c m).2 ∧ CnIs n (moveF n C k t c m).1 (moveU n u k t c m).1 := by
  unfold moveF moveU
  by_cases ha : isAt n k c ∧ isAt n t c ∧ 0 ≤ m
  · rw [if_pos ha, if_pos ha]
    obtain ⟨h1, h2, h3⟩ := ha
    unfold isAt at h1 h2
    have e := h k.toNat c.toNat (by omega) (by omega)
    have e' := h t.toNat c.toNat (by omega) (by omega)
    have b := hu (k.toNat * 3 + c.toNat) (by omega)
    have b' := hu (t.toNat * 3 + c.toNat) (by omega)
    rw [e, e']
    by_cases h4 : u (k.toNat * 3 + c.toNat) < m
    · rw [if_pos h4]
      rw [withF_low (u := u) (i := k.toNat * 3 + c.toNat) (n := -m) (by omega) (by omega), if_neg (by decide)]
      exact ⟨rfl, h⟩
    · rw [if_neg h4]
      have e1 : withF u (k.toNat * 3 + c.toNat) (-m) = (updU u (k.toNat * 3 + c.toNat) (u (k.toNat * 3 + c.toNat) - m), 0) := by
        rw [withF_in (by omega), Int.sub_eq_add_neg]
      rw [e1, if_pos rfl]
      dsimp only
      by_cases h5 : k = t
      · subst h5
        have e0 : updU u (k.toNat * 3 + c.toNat) (u (k.toNat * 3 + c.toNat) - m) (k.toNat * 3 + c.toNat) = u (k.toNat * 3 + c.toNat) - m := if_pos rfl
        have e2 : withF (updU u (k.toNat * 3 + c.toNat) (u (k.toNat * 3 + c.toNat) - m)) (k.toNat * 3 + c.toNat) m = (u, 0) := by
          rw [withF_in (by rw [e0]; omega), e0]
          refine Prod.ext ?_ rfl
          funext j
          show updU _ _ _ j = u j
          unfold updU
          by_cases ej : j = k.toNat * 3 + c.toNat
          · rw [if_pos ej, ej]; omega
          · rw [if_neg ej, if_neg ej]
        rw [e2, if_pos rfl, if_pos rfl]
        exact ⟨rfl, h⟩
      · rw [if_neg h5]
        have e0 : updU u (k.toNat * 3 + c.toNat) (u (k.toNat * 3 + c.toNat) - m) (t.toNat * 3 + c.toNat) = u (t.toNat * 3 + c.toNat) := if_neg (by omega)
        by_cases h6 : 64 < u (t.toNat * 3 + c.toNat) + m
        · rw [if_pos h6, withF_high (by rw [e0]; omega) (by omega), if_neg (by decide)]
          exact ⟨rfl, h⟩
        · rw [if_neg h6, withF_in (by rw [e0]; omega), if_pos rfl, e0]
          exact ⟨rfl, (h.upd (by omega) _).upd (by omega) _⟩
  · rw [if_neg ha, if_neg ha]
    exact ⟨rfl, h⟩
/-- The program's accounts. -/
def accRep : AccRep where
  rep := fun w b F n C => F = [b] ∧ ∃ u, AccIs w b n u ∧ CnIs n C u
  lt := fun ⟨hF, _, h, _⟩ g hg => by
    subst hF
    simp at hg
    subst hg
    exact h.blk.lt
  only := fun ⟨hF, u, h, hc⟩ o hn => ⟨hF, u, h.only o (hn _ (by rw [hF]; simp)), hc⟩
  new := fun c w => (new_any c w).mono (fun e w' ⟨o, h⟩ => ⟨o, by
    rcases h with ⟨h1, h2, b, he, hb, hA⟩ | h
    · exact .inl ⟨h1, h2, b, [b], he, ⟨rfl, _, hA, fun _ _ _ _ => rfl⟩, fun g hg => by simp at hg; omega⟩
    · exact .inr h⟩)
  take := fun {w b F n C} k c ⟨hF, u, h, hc⟩ => (take_u h k c).mono (fun e w' ⟨he, hA, o⟩ => by
    have hi := take_is hc h.ok h.n16 k c
    subst hF
    exact ⟨by rw [hi.1]; exact he, [b], ⟨rfl, _, hA, hi.2⟩, fun g hg => .inl hg, o⟩)
  give := fun {w b F n C} k c ⟨hF, u, h, hc⟩ => (give_u h k c).mono (fun e w' ⟨he, hA, o⟩ => by
    have hi := give_is hc h.ok h.n16 k c
    subst hF
    exact ⟨by rw [hi.1]; exact he, [b], ⟨rfl, _, hA, hi.2⟩, fun g hg => .inl hg, o⟩)
  move := fun {w b F n C} k t c m hm ⟨hF, u, h, hc⟩ => (move_u h k t c m hm.2).mono (fun e w' ⟨he, hA, o⟩ => by
    have hi := move_is hc h.ok h.n16 k t c m
    subst hF
    exact ⟨by rw [hi.1]; exact he, [b], ⟨rfl, _, hA, hi.2⟩, fun g hg => .inl hg, o⟩)
  count := fun {w b F n C} k c hk hc3 ⟨_, u, h, hc⟩ => by
    rw [hc k c hk hc3]
    exact count_yes h k c hk hc3
  room := fun {w b F n C} k hk ⟨_, u, h, hc⟩ => by
    rw [hc k 0 hk (by omega), hc k 1 hk (by omega), hc k 2 hk (by omega)]
    exact room_yes h k hk
set_option maxHeartbeats 1000000 in
theorem modOk : ModOk := fun raw n w _ h2 => by
  by_cases hn : n < 1
  · have e : modF raw n = (0, 1) := if_pos hn
    rw [e]
    go_enter Try.func6, Try.ntmps6
    go_wp2_with fail
    go_ret2
    exact ⟨rfl, Only.refl _ _⟩
  · have e : modF raw n = (raw % n, 0) := if_neg hn
    have hb := tmod_bd raw n (by omega)
    have he := emod_of_tmod raw n (by omega)
    rw [e]
    by_cases ht : raw.tmod n < 0
    · rw [if_pos ht] at he
      have HE := Lib.hid he
      have hn0 : (n == 0) = false := by simp; omega
      clear he e
      go_enter Try.func6, Try.ntmps6
      go_wp2_with fail
      go_ret2
      exact ⟨by rw [HE.out]; rfl, Only.refl _ _⟩
    · rw [if_neg ht] at he
      have HE := Lib.hid he
      have hn0 : (n == 0) = false := by simp; omega
      clear he e
      go_enter Try.func6, Try.ntmps6
      go_wp2_with fail
      go_ret2
      exact ⟨by rw [HE.out]; rfl, Only.refl _ _⟩
theorem awakeOk : AwakeOk17 := awake17 accRep modOk
theorem law_mod (raw n : Int) (w : World) (h1 : -9223372036854775808 ≤ raw ∧ raw ≤ 9223372036854775807) (h2 : -9223372036854775808 ≤ n ∧ n ≤ 9223372036854775807) :
    Calls Try.prog 3 #[.int .i64 raw, .int .i64 n] w fun e w' => e = .returned (.bool true) ∧ Only [] w w' := hmod_any modOk awakeOk raw n w h1 h2
theorem law_keeps (c : Int) (A : Option Addr) (xs : List HOp) (cap : Nat) (w : World) (h : RdS KH w A xs) (hx : ∀ x ∈ xs, x.ok) (hl : xs.length ≤ 17592186044416) :
    Calls Try.prog 4 #[.int .i64 c, .slice A xs.length cap] w fun e w' => e = .returned (.bool true) ∧ Only [] w w' := keeps_any accRep awakeOk c A xs cap w h hx hl
theorem keeps_row (c : Int) (W : World) {v : Value} (ok : Kd.ok W (.l kH 40) v) : Calls Try.prog 4 #[.int .i64 c, v] W fun e w' => e = .returned (.bool true) ∧ Only [] W w' := by
  obtain ⟨A, xs, cap, rfl, h1, h2, h3, h4, h5⟩ := RdS.of_ok KH rfl decH ok
  exact law_keeps c A xs cap W h4 h5 (by rw [show KH.by' = 40 from rfl] at h3; omega)
end Go.Proofs.Ytcchahgfjnphgaa
