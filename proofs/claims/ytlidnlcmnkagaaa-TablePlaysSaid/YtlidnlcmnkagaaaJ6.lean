/- Is a text an atom? The program's answer and the document's. -/
import Derived.Test.YtlidnlcmnkagaaaJ5
namespace Go.Proofs.Ytlidnlcmnkagaaa
open Go.RowKit
set_option maxRecDepth 20000

set_option maxHeartbeats 1000000 in
theorem small_any (c : Int) (w : World) : Calls Try.prog 50 #[.int .u8 c] w fun e w' => e = .returned (.bool (lowI c)) ∧ w = w' := by
  by_cases h1 : 97 ≤ c <;> by_cases h2 : c ≤ 122
  · rw [show lowI c = true by simp [lowI, h1, h2]]
    go_enter Try.func50, Try.ntmps50
    go_wp2_with fail
    go_ret
    exact ⟨rfl, rfl⟩
  · have q : decide (c ≤ 122) = false := decide_eq_false h2
    rw [show lowI c = false by simp [lowI, h2]]
    go_enter Try.func50, Try.ntmps50
    go_wp2_with fail
    go_ret
    exact ⟨rfl, rfl⟩
  · have q : decide (97 ≤ c) = false := decide_eq_false h1
    rw [show lowI c = false by simp [lowI, h1]]
    go_enter Try.func50, Try.ntmps50
    go_wp2_with fail
    go_ret
    exact ⟨rfl, rfl⟩
  · have q : decide (97 ≤ c) = false := decide_eq_false h1
    rw [show lowI c = false by simp [lowI, h1]]
    go_enter Try.func50, Try.ntmps50
    go_wp2_with fail
    go_ret
    exact ⟨rfl, rfl⟩
set_option maxHeartbeats 1000000 in
theorem lower_any (c : Int) (w : World) : Calls Try.prog 49 #[.int .u8 c] w fun e w' => e = .returned (.bool (lowI c)) ∧ w = w' := by
  by_cases h1 : 97 ≤ c <;> by_cases h2 : c ≤ 122
  · rw [show lowI c = true by simp [lowI, h1, h2]]
    go_enter Try.func49, Try.ntmps49
    go_wp2_with fail
    go_ret
    exact ⟨rfl, rfl⟩
  · have q : decide (c ≤ 122) = false := decide_eq_false h2
    rw [show lowI c = false by simp [lowI, h2]]
    go_enter Try.func49, Try.ntmps49
    go_wp2_with fail
    go_ret
    exact ⟨rfl, rfl⟩
  · have q : decide (97 ≤ c) = false := decide_eq_false h1
    rw [show lowI c = false by simp [lowI, h1]]
    go_enter Try.func49, Try.ntmps49
    go_wp2_with fail
    go_ret
    exact ⟨rfl, rfl⟩
  · have q : decide (97 ≤ c) = false := decide_eq_false h1
    rw [show lowI c = false by simp [lowI, h1]]
    go_enter Try.func49, Try.ntmps49
    go_wp2_with fail
    go_ret
    exact ⟨rfl, rfl⟩
set_option maxHeartbeats 4000000 in
theorem goOn_any (c : Int) (w : World) : Calls Try.prog 51 #[.int .u8 c] w fun e w' => e = .returned (.bool (goI c)) ∧ w = w' := by
  have K := small_any c w
  cases hl : lowI c with
  | true =>
    rw [hl] at K
    have K := Lib.hid K
    rw [show goI c = true by simp [goI, hl]]
    clear hl
    go_enter Try.func51, Try.ntmps51
    go_wp2_with fail
    (with_reducible refine K.out.mono ?_)
    rintro e w1 ⟨rfl, rfl⟩
    go_wp2_with fail
    go_ret
    exact ⟨rfl, rfl⟩
  | false =>
    rw [hl] at K
    have K := Lib.hid K
    have E : goI c = ((decide (65 ≤ c) && decide (c ≤ 90)) || (decide (48 ≤ c) && decide (c ≤ 57)) || c == 95) := by simp [goI, hl]
    cases h1 : decide (65 ≤ c) <;> cases h2 : decide (c ≤ 90) <;> cases h3 : decide (48 ≤ c) <;> cases h4 : decide (c ≤ 57) <;> cases h5 : (c == 95)
    all_goals
      rw [h1, h2, h3, h4, h5] at E
      simp at E
      rw [E]
      clear E hl
      go_enter Try.func51, Try.ntmps51
      go_wp2_with fail
      (with_reducible refine K.out.mono ?_)
      rintro e w1 ⟨rfl, rfl⟩
      go_wp2_with fail
      go_ret
      exact ⟨rfl, rfl⟩

theorem atomF_at {s : ByteArray} {b : UInt8} {r : List UInt8} (h : s.data.toList = b :: r) : atomF s = (decide (s.size ≤ 64) && lowB b && !(s.toList == [110, 105, 108]) && !(s.toList == [116, 114, 117, 101]) && !(s.toList == [102, 97, 108, 115, 101]) && s.data.toList.all goB) := by
  have h1 : 1 ≤ s.size := by
    have : s.data.toList.length = r.length + 1 := by rw [h]; rfl
    rw [Array.length_toList] at this
    show 1 ≤ s.data.size
    omega
  unfold atomF
  rw [h, decide_eq_true h1]
  simp only [Bool.true_and]
theorem atomF_nil {s : ByteArray} (h : s.data.toList = []) : atomF s = false := by
  unfold atomF
  rw [h]
  simp
theorem byte_at (s : ByteArray) (k : Nat) (h : k < s.size) : s.data.toList[k]? = some s[k] := by
  rw [Array.getElem?_toList, Array.getElem?_eq_getElem h]
  rfl
set_option maxHeartbeats 4000000 in
theorem isAtom_any (s : ByteArray) (w : World) (hs : s.size ≤ 140737488351232) : Calls Try.prog 42 #[.string s] w fun e w' => e = .returned (.bool (atomF s)) ∧ w = w' := by
  cases hd : s.data.toList with
  | nil =>
    rw [atomF_nil hd]
    have : s = ⟨#[]⟩ := ByteArray.ext (by have := congrArg List.toArray hd; simpa using this)
    subst this
    clear hd hs
    go_enter Try.func42, Try.ntmps42
    go_wp2_with fail
    go_ret
    exact ⟨rfl, rfl⟩
  | cons b r =>
    have p0 : 0 < s.size := by
      have : s.data.toList.length = r.length + 1 := by rw [hd]; rfl
      rw [Array.length_toList] at this
      show 0 < s.data.size
      omega
    have hb : s[0] = b := by
      have := byte_at s 0 p0
      rw [hd] at this
      injection this with this
      exact this.symm
    have hne : s.toList.isEmpty = false := by
      rw [ByteArray.toList_eq, hd]
      rfl
    have E := atomF_at hd
    cases h1 : (s.toList == [110, 105, 108]) with
    | true =>
      rw [show atomF s = false by rw [E, h1]; simp]
      clear E hb hd
      go_enter Try.func42, Try.ntmps42
      go_wp2_with fail
      go_ret
      exact ⟨rfl, rfl⟩
    | false =>
    cases h2 : (s.toList == [116, 114, 117, 101]) with
    | true =>
      rw [show atomF s = false by rw [E, h2]; simp]
      clear E hb hd
      go_enter Try.func42, Try.ntmps42
      go_wp2_with fail
      go_ret
      exact ⟨rfl, rfl⟩
    | false =>
    cases h3 : (s.toList == [102, 97, 108, 115, 101]) with
    | true =>
      rw [show atomF s = false by rw [E, h3]; simp]
      clear E hb hd
      go_enter Try.func42, Try.ntmps42
      go_wp2_with fail
      go_ret
      exact ⟨rfl, rfl⟩
    | false =>
    by_cases h4 : s.size ≤ 64
    · have E2 : atomF s = (lowB b && s.data.toList.all goB) := by rw [E, h1, h2, h3, decide_eq_true h4]; simp
      have KL := small_any (b.toNat : Int) w
      have q : decide (64 < s.size) = false := decide_eq_false (by omega)
      cases hl : lowB b with
      | false =>
        rw [show atomF s = false by rw [E2, hl]; rfl]
        rw [show lowI (b.toNat : Int) = false from hl] at KL
        have KL := Lib.hid KL
        have HB := Lib.hid hb
        clear E E2 hb hd hl
        go_enter Try.func42, Try.ntmps42
        go_wp2_with fail
        rw [HB.out]
        (with_reducible refine KL.out.mono ?_)
        rintro e w1 ⟨rfl, rfl⟩
        go_wp2_with fail
        go_ret
        exact ⟨rfl, rfl⟩
      | true =>
        rw [show lowI (b.toNat : Int) = true from hl] at KL
        rw [show atomF s = s.data.toList.all goB by rw [E2, hl]; rfl]
        have KL := Lib.hid KL
        have HB := Lib.hid hb
        have KG := Lib.hid (fun c => goOn_any c w)
        clear E E2 hb hd hl
        go_enter Try.func42, Try.ntmps42
        go_wp2_with fail
        rw [HB.out]
        (with_reducible refine KL.out.mono ?_)
        rintro e w1 ⟨rfl, rfl⟩
        go_wp2_with fail
        go_loopw [3, 21] (fun _ kv wr => ∃ k : Nat, kv = .int .i64 k ∧ k ≤ s.size ∧ (s.data.toList.take k).all goB = true ∧ w = wr) (fun _ kv _ => s.size - (intOf kv).toNat)
        case atStart => exact ⟨0, rfl, Nat.zero_le _, rfl, rfl⟩
        case round =>
          obtain ⟨k, rfl, hk, hall, rfl⟩ := hrel
          have HA := Lib.hid hall
          clear hall
          by_cases hlt : k < s.size
          · have ht : (s.data.toList.take (k + 1)).all goB = ((s.data.toList.take k).all goB && goB s[k]) := by
              rw [List.take_add_one, byte_at s k hlt, List.all_append]
              simp
            have K1 := KG.out (s[k].toNat : Int)
            cases hg : goB s[k] with
            | true =>
              rw [HA.out, hg] at ht
              have HT := Lib.hid ht
              rw [show goI (s[k].toNat : Int) = true from hg] at K1
              have K1 := Lib.hid K1
              clear ht hg
              go_wp2_with fail
              (with_reducible refine K1.out.mono ?_)
              rintro e w1 ⟨rfl, rfl⟩
              go_wp2_with fail
              go_roundw
              case rel => exact ⟨k + 1, by go_num, by omega, HT.out, by trivial⟩
              case measure => simp [intOf]; omega
            | false =>
              rw [show goI (s[k].toNat : Int) = false from hg] at K1
              have K1 := Lib.hid K1
              have EN := Lib.hid (show s.data.toList.all goB = false by
                rw [List.all_eq_false]
                exact ⟨s[k], List.mem_of_getElem? (byte_at s k hlt), by simp [hg]⟩)
              clear ht hg
              go_wp2_with fail
              (with_reducible refine K1.out.mono ?_)
              rintro e w1 ⟨rfl, rfl⟩
              go_wp2_with fail
              go_ret
              exact ⟨by rw [EN.out]; rfl, rfl⟩
          · have ek : k = s.size := by omega
            subst ek
            have EN := Lib.hid (show s.data.toList.all goB = true by
              have := HA.out
              rwa [List.take_of_length_le (by rw [Array.length_toList]; exact Nat.le_refl _)] at this)
            go_wp2_with fail
            go_ret
            exact ⟨by rw [EN.out]; rfl, rfl⟩
    · have q : decide ((64 : Int) < (s.size : Int)) = true := decide_eq_true (by omega)
      have q' : decide (64 < s.size) = true := decide_eq_true (by omega)
      rw [show atomF s = false by rw [E, decide_eq_false h4]; simp]
      clear E hb hd
      go_enter Try.func42, Try.ntmps42
      go_wp2_with fail
      go_ret
      exact ⟨rfl, rfl⟩

set_option maxHeartbeats 8000000 in
theorem atom_any (s : ByteArray) (w : World) (hs : s.size ≤ 140737488351232) : Calls Try.prog 35 #[.string s] w fun e w' => e = .returned (.bool (atomF s)) ∧ w = w' := by
  cases hd : s.data.toList with
  | nil =>
    rw [atomF_nil hd]
    have : s = ⟨#[]⟩ := ByteArray.ext (by have := congrArg List.toArray hd; simpa using this)
    subst this
    clear hd hs
    go_enter Try.func35, Try.ntmps35
    go_wp2_with fail
    go_ret
    exact ⟨rfl, rfl⟩
  | cons b r =>
    have p0 : 0 < s.size := by
      have : s.data.toList.length = r.length + 1 := by rw [hd]; rfl
      rw [Array.length_toList] at this
      show 0 < s.data.size
      omega
    have hb : s[0] = b := by
      have := byte_at s 0 p0
      rw [hd] at this
      injection this with this
      exact this.symm
    have E := atomF_at hd
    have q0 : decide (s.size < 1) = false := decide_eq_false (by omega)
    by_cases h4 : s.size ≤ 64
    · have KL := lower_any (b.toNat : Int) w
      have q : decide (64 < s.size) = false := decide_eq_false (by omega)
      rw [decide_eq_true h4] at E
      cases hl : lowB b with
      | false =>
        rw [show atomF s = false by rw [E, hl]; simp]
        rw [show lowI (b.toNat : Int) = false from hl] at KL
        have KL := Lib.hid KL
        have HB := Lib.hid hb
        clear E hb hd hl
        go_enter Try.func35, Try.ntmps35
        go_wp2_with fail
        rw [HB.out]
        (with_reducible refine KL.out.mono ?_)
        rintro e w1 ⟨rfl, rfl⟩
        go_wp2_with fail
        go_ret
        exact ⟨rfl, rfl⟩
      | true =>
        rw [show lowI (b.toNat : Int) = true from hl] at KL
        have KL := Lib.hid KL
        have HB := Lib.hid hb
        rw [hl] at E
        clear hb hd hl
        cases h1 : (s.toList == [110, 105, 108]) with
        | true =>
          rw [show atomF s = false by rw [E, h1]; simp]
          clear E
          go_enter Try.func35, Try.ntmps35
          go_wp2_with fail
          rw [HB.out]
          (with_reducible refine KL.out.mono ?_)
          rintro e w1 ⟨rfl, rfl⟩
          go_wp2_with fail
          go_ret
          exact ⟨rfl, rfl⟩
        | false =>
        cases h2 : (s.toList == [116, 114, 117, 101]) with
        | true =>
          rw [show atomF s = false by rw [E, h2]; simp]
          clear E
          go_enter Try.func35, Try.ntmps35
          go_wp2_with fail
          rw [HB.out]
          (with_reducible refine KL.out.mono ?_)
          rintro e w1 ⟨rfl, rfl⟩
          go_wp2_with fail
          go_ret
          exact ⟨rfl, rfl⟩
        | false =>
        cases h3 : (s.toList == [102, 97, 108, 115, 101]) with
        | true =>
          rw [show atomF s = false by rw [E, h3]; simp]
          clear E
          go_enter Try.func35, Try.ntmps35
          go_wp2_with fail
          rw [HB.out]
          (with_reducible refine KL.out.mono ?_)
          rintro e w1 ⟨rfl, rfl⟩
          go_wp2_with fail
          go_ret
          exact ⟨rfl, rfl⟩
        | false =>
        rw [show atomF s = s.data.toList.all goB by rw [E, h1, h2, h3]; simp]
        have KG := Lib.hid (fun c => lower_any c w)
        clear E
        go_enter Try.func35, Try.ntmps35
        go_wp2_with fail
        rw [HB.out]
        (with_reducible refine KL.out.mono ?_)
        rintro e w1 ⟨rfl, rfl⟩
        go_wp2_with fail
        go_loopw [3, 4] (fun kv _ wr => ∃ k : Nat, kv = .int .i64 k ∧ k ≤ s.size ∧ (s.data.toList.take k).all goB = true ∧ w = wr) (fun kv _ _ => s.size - (intOf kv).toNat)
        case atStart => exact ⟨0, rfl, Nat.zero_le _, rfl, rfl⟩
        case round =>
          obtain ⟨k, rfl, hk, hall, rfl⟩ := hrel
          have HA := Lib.hid hall
          clear hall
          by_cases hlt : k < s.size
          · have ht : (s.data.toList.take (k + 1)).all goB = ((s.data.toList.take k).all goB && goB s[k]) := by
              rw [List.take_add_one, byte_at s k hlt, List.all_append]
              simp
            rw [HA.out, Bool.true_and] at ht
            have HT := Lib.hid ht
            have EN := Lib.hid (fun hg : goB s[k] = false => show s.data.toList.all goB = false by
              rw [List.all_eq_false]
              exact ⟨s[k], List.mem_of_getElem? (byte_at s k hlt), by simp [hg]⟩)
            have KG1 := Lib.hid (KG.out (s[k].toNat : Int))
            have HG := Lib.hid (show goB s[k] = goI (s[k].toNat : Int) from rfl)
            generalize hc : (s[k].toNat : Int) = c at HG KG1
            have HC := Lib.hid hc
            clear ht hc
            cases hl2 : lowI c with
            | true =>
              have K1 : Hid (Calls Try.prog 49 #[.int .u8 c] w fun e w' => e = .returned (.bool true) ∧ w = w') := Lib.hid (hl2 ▸ KG1.out)
              have EG := Lib.hid (show goB s[k] = true by rw [HG.out]; simp [goI, hl2])
              clear hl2
              go_wp2_with fail
              rw [HC.out]
              (with_reducible refine K1.out.mono ?_)
              rintro e w1 ⟨rfl, rfl⟩
              go_wp2_with fail
              go_roundw
              case rel => exact ⟨k + 1, by go_num, by omega, by rw [HT.out, EG.out], by trivial⟩
              case measure => simp [intOf]; omega
            | false =>
              have K1 : Hid (Calls Try.prog 49 #[.int .u8 c] w fun e w' => e = .returned (.bool false) ∧ w = w') := Lib.hid (hl2 ▸ KG1.out)
              have E : goI c = ((decide (65 ≤ c) && decide (c ≤ 90)) || (decide (48 ≤ c) && decide (c ≤ 57)) || c == 95) := by simp [goI, hl2]
              clear hl2
              cases h5 : decide (65 ≤ c) <;> cases h6 : decide (c ≤ 90) <;> cases h7 : decide (48 ≤ c) <;> cases h8 : decide (c ≤ 57) <;> cases h9 : (c == 95)
              all_goals
                rw [h5, h6, h7, h8, h9] at E
                simp at E
                have h9' : (c != 95) = !(c == 95) := rfl
                rw [h9] at h9'
                rw [← HG.out] at E
                have EG := Lib.hid E
                simp only [Bool.not_true, Bool.not_false] at h9'
                clear E
                go_wp2_with fail
                rw [HC.out]
                (with_reducible refine K1.out.mono ?_)
                rintro e w1 ⟨rfl, rfl⟩
                go_wp2_with fail
                first
                | (go_roundw
                   case rel => exact ⟨k + 1, by go_num, by omega, by rw [HT.out, EG.out], by trivial⟩
                   case measure => simp [intOf]; omega)
                | (go_ret
                   exact ⟨by rw [EN.out EG.out]; rfl, rfl⟩)
          · have ek : k = s.size := by omega
            subst ek
            have EN := Lib.hid (show s.data.toList.all goB = true by
              have := HA.out
              rwa [List.take_of_length_le (by rw [Array.length_toList]; exact Nat.le_refl _)] at this)
            go_wp2_with fail
            go_ret
            exact ⟨by rw [EN.out]; rfl, rfl⟩
    · have q : decide (64 < s.size) = true := decide_eq_true (by omega)
      rw [show atomF s = false by rw [E, decide_eq_false h4]; simp]
      clear E hb hd
      go_enter Try.func35, Try.ntmps35
      go_wp2_with fail
      go_ret
      exact ⟨rfl, rfl⟩
end Go.Proofs.Ytlidnlcmnkagaaa
