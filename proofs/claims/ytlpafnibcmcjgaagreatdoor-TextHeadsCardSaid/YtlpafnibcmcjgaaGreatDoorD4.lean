/- The document's Number. -/
import Derived.Test.YtlpafnibcmcjgaaGreatDoorMb
import Derived.Test.YtlpafnibcmcjgaaGreatDoorMa
namespace Go.Proofs.YtlpafnibcmcjgaaGreatDoor
open Go.RowKit

def NumE (l : List UInt8) (e : Ending) : Prop := ∃ (v : Int) (ok : Bool), e = .returned (.tuple #[.int .i64 v, .bool ok]) ∧ refN l = if ok = true then some v else none
theorem ret_two {a b : Int} {c d : Bool} (h : a = b) (h' : c = d) : Ending.returned (.tuple #[.int .i64 a, .bool c]) = .returned (.tuple #[.int .i64 b, .bool d]) := by rw [h, h']
theorem num_no {l : List UInt8} (h : ¬ (Pass l ∧ dv 0 (dgs l) ≤ 4611686018427387903)) (v : Int) : NumE l (.returned (.tuple #[.int .i64 v, .bool false])) := ⟨v, false, rfl, ref_no h⟩
theorem digits_to (s : ByteArray) (D : Int) (i r : Nat) (w : World) (hs : s.size ≤ 262144) (hi : i ≤ s.size) (hD : D = (i : Int)) (hr : i + runOf isDig ((lst s).drop i) = r) : Calls Tryz.prog 46 #[.string s, .int .i64 D] w fun e w' => e = .returned (.int .i64 r) ∧ w = w' := by
  subst hD hr
  exact ref_digits s i w hs hi
theorem bytes_ne {s : ByteArray} (h : 0 < s.size) : lst s ≠ [] := by
  intro e
  have := lst_len s
  rw [e] at this
  simp at this
  omega
theorem sgn_at {s : ByteArray} (h : 0 < s.size) : sgn (lst s) = ((((s[0]'h).toNat : Nat) : Int) == 45) := by
  unfold sgn
  rw [List.head?_eq_getElem?, lst_at h, Bool.eq_iff_iff]
  simp only [Option.some.injEq, decide_eq_true_eq, beq_iff_eq]
  constructor
  · intro e; rw [e]; rfl
  · intro e; exact UInt8.toNat_inj.1 (by show _ = 45; omega)
theorem dgs_drop {l : List UInt8} {i : Nat} (h : sgn l = decide (i = 1)) (hi : i ≤ 1) : dgs l = l.drop i := by
  unfold dgs
  rw [h]
  by_cases h1 : i = 1
  · subst h1; simp
  · have : i = 0 := by omega
    subst this; simp
theorem dgs_at {s : ByteArray} {i : Nat} (h : sgn (lst s) = decide (i = 1)) (hi : i ≤ 1) (hl : i < s.size) : (dgs (lst s)).head? = some (s[i]'hl) := by
  rw [dgs_drop h hi, List.head?_drop, lst_at hl]
theorem dgs_len {s : ByteArray} {i : Nat} (h : sgn (lst s) = decide (i = 1)) (hi : i ≤ 1) : (dgs (lst s)).length = s.size - i := by
  rw [dgs_drop h hi, List.length_drop, lst_len]
/-- What the loop comes to. -/
theorem num_sum {s : ByteArray} {i k : Nat} (h : sgn (lst s) = decide (i = 1)) (hi : i ≤ 1) (h1 : i ≤ k) (hk : k < s.size) : dv 0 ((dgs (lst s)).take (k + 1 - i)) = dv 0 ((dgs (lst s)).take (k - i)) * 10 + ((s[k]'hk).toNat - 48) := by
  have : (dgs (lst s))[k - i]? = some (s[k]'hk) := by
    rw [dgs_drop h hi, List.getElem?_drop, show i + (k - i) = k by omega, lst_at hk]
  rw [show k + 1 - i = (k - i) + 1 by omega]
  exact dv_step this
theorem num_dig {s : ByteArray} {i k : Nat} (h : sgn (lst s) = decide (i = 1)) (hi : i ≤ 1) (h1 : i ≤ k) (hk : k < s.size) (hp : Pass (lst s)) : 48 ≤ (s[k]'hk).toNat ∧ (s[k]'hk).toNat ≤ 57 := by
  have : (dgs (lst s))[k - i]? = some (s[k]'hk) := by
    rw [dgs_drop h hi, List.getElem?_drop, show i + (k - i) = k by omega, lst_at hk]
  exact isDig_bd (hp.can.2.1 _ (List.mem_of_getElem? this))
theorem num_full {s : ByteArray} {i : Nat} (h : sgn (lst s) = decide (i = 1)) (hi : i ≤ 1) : (dgs (lst s)).take (s.size - i) = dgs (lst s) := by
  rw [← dgs_len h hi, List.take_length]
theorem quo_ten {d : Int} (h1 : 0 ≤ d) (h2 : d ≤ 9) : (4611686018427387904 - d).tdiv 10 = (4611686018427387904 - d) / 10 := Int.tdiv_eq_ediv_of_nonneg (by omega)
theorem run_all {s : ByteArray} {i : Nat} (h : sgn (lst s) = decide (i = 1)) (hi : i ≤ 1) (hl : i ≤ s.size) : i + runOf isDig ((lst s).drop i) = s.size ↔ ∀ c ∈ dgs (lst s), isDig c = true := by
  rw [dgs_drop h hi]
  constructor
  · intro he
    refine all_dig ?_
    rw [List.length_drop, lst_len]; omega
  · intro ha
    rw [dig_all ha, List.length_drop, lst_len]; omega

set_option maxHeartbeats 4000000 in
theorem number_fail0 (s : ByteArray) (w : World) (h1 : 0 < s.size) (h0 : 0 < s.size) (h20 : s.size ≤ 20) (hs : sgn (lst s) = decide (0 = 1)) (hp : ¬ Pass (lst s)) :
    Calls Tryz.prog 48 #[.string s] w fun e w' => NumE (lst s) e ∧ w = w' := by
  have hn := Lib.hid (fun v => num_no (l := lst s) (fun h => hp h.1) v)
  have c0 : ((s.size : Int) == 0) = false := by rw [beq_eq_false_iff_ne]; omega
  have c20 : decide ((20 : Int) < (s.size : Int)) = false := by simp; omega
  have c45 : (((s[0]'h0).toNat : Int) == 45) = false := by rw [← sgn_at h0, hs]; rfl
  have cl : ((0 : Int) == (s.size : Int)) = false := by rw [beq_eq_false_iff_ne]; omega
  obtain ⟨r, hr⟩ : ∃ r, 0 + runOf isDig ((lst s).drop 0) = r := ⟨_, rfl⟩
  have D := Lib.hid (fun w => digits_to s 0 0 r w (by omega) (by omega) rfl hr)
  have HA := run_all hs (by omega) (by omega : 0 ≤ s.size)
  rw [hr] at HA
  have HH := dgs_at hs (by omega) h1
  have HL := dgs_len hs (by omega)
  have key : (((s[0]'h1).toNat : Int) == 48) = false → ((r : Int) != (s.size : Int)) = false → decide ((19 : Int) < (s.size : Int)) = true := by
    intro k1 k2
    have k1' := ne_of_beq_false k1
    have k2' : (r : Int) = (s.size : Int) := by simpa using k2
    rw [decide_eq_true_eq]
    by_cases hlt : (19 : Int) < (s.size : Int)
    · exact hlt
    · refine absurd (pass_of (fun e => by rw [e] at HH; cases HH) (HA.1 (by omega)) (fun e => ?_) (by rw [HL]; omega)) hp
      rw [HH] at e
      injection e with e
      exact absurd (by rw [e]; rfl) k1'
  have key2 : (((s[0]'h1).toNat : Int) == 48) = true → decide (1 < (s.size : Int)) = false → ((r : Int) != (s.size : Int)) = false → False := by
    intro k1 k2 k3
    have k3' : (r : Int) = (s.size : Int) := by simpa using k3
    have k2' : ¬ (1 < (s.size : Int)) := by simpa using k2
    exact hp (pass_of (fun e => by rw [e] at HH; cases HH) (HA.1 (by omega)) (fun _ => ⟨by rw [HL]; omega, by rw [hs]; rfl⟩) (by rw [HL]; omega))
  clear hs hr HA HH HL hp
  cases z : (((s[0]'h1).toNat : Int) == 48)
  · cases g : ((r : Int) != (s.size : Int))
    · have k := key z g
      clear key key2
      go_enter Tryz.func48, Tryz.ntmps48
      go_wp2_with fail
      (with_reducible refine (D.out _).mono ?_)
      rintro e w' ⟨rfl, rfl⟩
      go_wp2_with fail
      go_ret2
      exact ⟨hn.out 0, rfl⟩
    · clear key key2
      go_enter Tryz.func48, Tryz.ntmps48
      go_wp2_with fail
      (with_reducible refine (D.out _).mono ?_)
      rintro e w' ⟨rfl, rfl⟩
      go_wp2_with fail
      go_ret2
      exact ⟨hn.out 0, rfl⟩
  · cases q : decide (1 < (s.size : Int))
    · cases g : ((r : Int) != (s.size : Int))
      · exact absurd g (fun g => key2 z q g)
      · clear key key2
        go_enter Tryz.func48, Tryz.ntmps48
        go_wp2_with fail
        (with_reducible refine (D.out _).mono ?_)
        rintro e w' ⟨rfl, rfl⟩
        go_wp2_with fail
        go_ret2
        exact ⟨hn.out 0, rfl⟩
    · clear key key2
      go_enter Tryz.func48, Tryz.ntmps48
      go_wp2_with fail
      go_ret2
      exact ⟨hn.out 0, rfl⟩
set_option maxHeartbeats 4000000 in
theorem number_pass0 (s : ByteArray) (w : World) (h1 : 0 < s.size) (h0 : 0 < s.size) (h20 : s.size ≤ 20) (hs : sgn (lst s) = decide (0 = 1)) (hp : Pass (lst s)) :
    Calls Tryz.prog 48 #[.string s] w fun e w' => NumE (lst s) e ∧ w = w' := by
  have HL := dgs_len hs (by omega)
  have c0 : ((s.size : Int) == 0) = false := by rw [beq_eq_false_iff_ne]; omega
  have c20 : decide ((20 : Int) < (s.size : Int)) = false := by simp; omega
  have c45 : (((s[0]'h0).toNat : Int) == 45) = false := by rw [← sgn_at h0, hs]; rfl
  have cl : ((0 : Int) == (s.size : Int)) = false := by rw [beq_eq_false_iff_ne]; omega
  have D := Lib.hid (fun w => digits_to s 0 0 s.size w (by omega) (by omega) rfl ((run_all hs (by omega) (by omega : 0 ≤ s.size)).2 hp.can.2.1))
  have g : ((s.size : Int) != (s.size : Int)) = false := by simp
  have g19 : decide ((19 : Int) < (s.size : Int)) = false := by
    have := hp.le
    simp; omega
  have HP := Lib.hid hp
  have HS := Lib.hid hs
  cases z : (((s[0]'h1).toNat : Int) == 48)
  · (
      go_enter Tryz.func48, Tryz.ntmps48
      go_wp2_with fail
      (with_reducible refine (D.out _).mono ?_)
      rintro e w' ⟨rfl, rfl⟩
      go_wp2_with fail
      go_loopw [5, 6] (fun nv kv wr => ∃ (k n : Nat), kv = .int .i64 k ∧ nv = .int .i64 n ∧ 0 ≤ k ∧ k ≤ s.size ∧ n = dv 0 ((dgs (lst s)).take (k - 0)) ∧ n ≤ 4611686018427387904 ∧ w = wr) (fun _ kv _ => s.size - (intOf kv).toNat)
      case atStart => exact ⟨0, 0, rfl, rfl, by omega, by omega, rfl, by omega, rfl⟩
      case round =>
        obtain ⟨k, n, rfl, rfl, hk1, hk2, hn, hn2, rfl⟩ := hrel
        by_cases hlt : k < s.size
        · obtain ⟨d1, d2⟩ := num_dig HS.out (by omega) hk1 hlt HP.out
          have HU := Lib.hid (num_sum HS.out (by omega) hk1 hlt)
          have HN := Lib.hid hn
          have qt := quo_ten (d := ((s[k]'hlt).toNat : Int) - 48) (by omega) (by omega)
          clear hn
          cases big : decide ((4611686018427387904 - (((s[k]'hlt).toNat : Int) - 48)) / 10 < (n : Int))
          · have hb : ¬ ((4611686018427387904 - (((s[k]'hlt).toNat : Int) - 48)) / 10 < (n : Int)) := by simpa using big
            go_wp2_with fail
            go_roundw
            case rel => exact ⟨k + 1, n * 10 + ((s[k]'hlt).toNat - 48), by go_num, by go_num, by omega, by omega, by rw [HU.out, ← HN.out], by omega, by trivial⟩
            case measure =>
              simp [intOf]
              omega
          · have hb : (4611686018427387904 - (((s[k]'hlt).toNat : Int) - 48)) / 10 < (n : Int) := by simpa using big
            have HX : Hid (¬ (Pass (lst s) ∧ dv 0 (dgs (lst s)) ≤ 4611686018427387903)) := Lib.hid (fun h => by
              have h2 := dv_take (dgs (lst s)) (k + 1 - 0)
              have h3 := HU.out
              rw [← HN.out] at h3
              have := h.2
              omega)
            go_wp2_with fail
            go_ret2
            exact ⟨num_no HX.out 0, by trivial⟩
        · have he : k = s.size := by omega
          subst he
          rw [num_full HS.out (by omega)] at hn
          have HN := Lib.hid hn
          clear hn
          cases big : decide ((n : Int) ≤ 4611686018427387903)
          · have hb : ¬ ((n : Int) ≤ 4611686018427387903) := by simpa using big
            have HX : Hid (¬ (Pass (lst s) ∧ dv 0 (dgs (lst s)) ≤ 4611686018427387903)) := Lib.hid (fun h => by have := h.2; rw [← HN.out] at this; omega)
            go_wp2_with fail
            all_goals
              go_ret2
              exact ⟨⟨_, false, ret_two (by rfl) (by first | (simp; done) | (simp; omega)), ref_no HX.out⟩, by trivial⟩
          · have hb : (n : Int) ≤ 4611686018427387903 := by simpa using big
            have HX := Lib.hid (ref_yes HP.out (by rw [← HN.out]; omega))
            rw [HS.out, ← HN.out] at HX
            go_wp2_with fail
            all_goals
              go_ret2
              exact ⟨⟨_, true, ret_two (by rfl) (by first | (simp; done) | (simp; omega)), HX.out⟩, by trivial⟩
    )
  · have q : decide (1 < (s.size : Int)) = false := by
      have h2 : (dgs (lst s)).head? = some 48 := by
        rw [dgs_at hs (by omega) h1]
        congr 1
        exact UInt8.toNat_inj.1 (by have := eq_of_beq z; show _ = 48; omega)
      have := hp.can.2.2 h2
      simp; omega
    (
      go_enter Tryz.func48, Tryz.ntmps48
      go_wp2_with fail
      (with_reducible refine (D.out _).mono ?_)
      rintro e w' ⟨rfl, rfl⟩
      go_wp2_with fail
      go_loopw [5, 6] (fun nv kv wr => ∃ (k n : Nat), kv = .int .i64 k ∧ nv = .int .i64 n ∧ 0 ≤ k ∧ k ≤ s.size ∧ n = dv 0 ((dgs (lst s)).take (k - 0)) ∧ n ≤ 4611686018427387904 ∧ w = wr) (fun _ kv _ => s.size - (intOf kv).toNat)
      case atStart => exact ⟨0, 0, rfl, rfl, by omega, by omega, rfl, by omega, rfl⟩
      case round =>
        obtain ⟨k, n, rfl, rfl, hk1, hk2, hn, hn2, rfl⟩ := hrel
        by_cases hlt : k < s.size
        · obtain ⟨d1, d2⟩ := num_dig HS.out (by omega) hk1 hlt HP.out
          have HU := Lib.hid (num_sum HS.out (by omega) hk1 hlt)
          have HN := Lib.hid hn
          have qt := quo_ten (d := ((s[k]'hlt).toNat : Int) - 48) (by omega) (by omega)
          clear hn
          cases big : decide ((4611686018427387904 - (((s[k]'hlt).toNat : Int) - 48)) / 10 < (n : Int))
          · have hb : ¬ ((4611686018427387904 - (((s[k]'hlt).toNat : Int) - 48)) / 10 < (n : Int)) := by simpa using big
            go_wp2_with fail
            go_roundw
            case rel => exact ⟨k + 1, n * 10 + ((s[k]'hlt).toNat - 48), by go_num, by go_num, by omega, by omega, by rw [HU.out, ← HN.out], by omega, by trivial⟩
            case measure =>
              simp [intOf]
              omega
          · have hb : (4611686018427387904 - (((s[k]'hlt).toNat : Int) - 48)) / 10 < (n : Int) := by simpa using big
            have HX : Hid (¬ (Pass (lst s) ∧ dv 0 (dgs (lst s)) ≤ 4611686018427387903)) := Lib.hid (fun h => by
              have h2 := dv_take (dgs (lst s)) (k + 1 - 0)
              have h3 := HU.out
              rw [← HN.out] at h3
              have := h.2
              omega)
            go_wp2_with fail
            go_ret2
            exact ⟨num_no HX.out 0, by trivial⟩
        · have he : k = s.size := by omega
          subst he
          rw [num_full HS.out (by omega)] at hn
          have HN := Lib.hid hn
          clear hn
          cases big : decide ((n : Int) ≤ 4611686018427387903)
          · have hb : ¬ ((n : Int) ≤ 4611686018427387903) := by simpa using big
            have HX : Hid (¬ (Pass (lst s) ∧ dv 0 (dgs (lst s)) ≤ 4611686018427387903)) := Lib.hid (fun h => by have := h.2; rw [← HN.out] at this; omega)
            go_wp2_with fail
            all_goals
              go_ret2
              exact ⟨⟨_, false, ret_two (by rfl) (by first | (simp; done) | (simp; omega)), ref_no HX.out⟩, by trivial⟩
          · have hb : (n : Int) ≤ 4611686018427387903 := by simpa using big
            have HX := Lib.hid (ref_yes HP.out (by rw [← HN.out]; omega))
            rw [HS.out, ← HN.out] at HX
            go_wp2_with fail
            all_goals
              go_ret2
              exact ⟨⟨_, true, ret_two (by rfl) (by first | (simp; done) | (simp; omega)), HX.out⟩, by trivial⟩
    )

set_option maxHeartbeats 4000000 in
theorem number_fail1 (s : ByteArray) (w : World) (h1 : 1 < s.size) (h0 : 0 < s.size) (h20 : s.size ≤ 20) (hs : sgn (lst s) = decide (1 = 1)) (hp : ¬ Pass (lst s)) :
    Calls Tryz.prog 48 #[.string s] w fun e w' => NumE (lst s) e ∧ w = w' := by
  have hn := Lib.hid (fun v => num_no (l := lst s) (fun h => hp h.1) v)
  have c0 : ((s.size : Int) == 0) = false := by rw [beq_eq_false_iff_ne]; omega
  have c20 : decide ((20 : Int) < (s.size : Int)) = false := by simp; omega
  have c45 : (((s[0]'h0).toNat : Int) == 45) = true := by rw [← sgn_at h0, hs]; rfl
  have cl : ((1 : Int) == (s.size : Int)) = false := by rw [beq_eq_false_iff_ne]; omega
  obtain ⟨r, hr⟩ : ∃ r, 1 + runOf isDig ((lst s).drop 1) = r := ⟨_, rfl⟩
  have D := Lib.hid (fun w => digits_to s 1 1 r w (by omega) (by omega) rfl hr)
  have HA := run_all hs (by omega) (by omega : 1 ≤ s.size)
  rw [hr] at HA
  have HH := dgs_at hs (by omega) h1
  have HL := dgs_len hs (by omega)
  have key : (((s[1]'h1).toNat : Int) == 48) = false → ((r : Int) != (s.size : Int)) = false → decide ((19 : Int) < (s.size : Int) - 1) = true := by
    intro k1 k2
    have k1' := ne_of_beq_false k1
    have k2' : (r : Int) = (s.size : Int) := by simpa using k2
    rw [decide_eq_true_eq]
    by_cases hlt : (19 : Int) < (s.size : Int) - 1
    · exact hlt
    · refine absurd (pass_of (fun e => by rw [e] at HH; cases HH) (HA.1 (by omega)) (fun e => ?_) (by rw [HL]; omega)) hp
      rw [HH] at e
      injection e with e
      exact absurd (by rw [e]; rfl) k1'
  clear hs hr HA HH HL hp
  cases z : (((s[1]'h1).toNat : Int) == 48)
  · cases g : ((r : Int) != (s.size : Int))
    · have k := key z g
      clear key 
      go_enter Tryz.func48, Tryz.ntmps48
      go_wp2_with fail
      (with_reducible refine (D.out _).mono ?_)
      rintro e w' ⟨rfl, rfl⟩
      go_wp2_with fail
      go_ret2
      exact ⟨hn.out 0, rfl⟩
    · clear key 
      go_enter Tryz.func48, Tryz.ntmps48
      go_wp2_with fail
      (with_reducible refine (D.out _).mono ?_)
      rintro e w' ⟨rfl, rfl⟩
      go_wp2_with fail
      go_ret2
      exact ⟨hn.out 0, rfl⟩
  · clear key
    go_enter Tryz.func48, Tryz.ntmps48
    go_wp2_with fail
    all_goals
      go_ret2
      exact ⟨hn.out 0, rfl⟩
set_option maxHeartbeats 4000000 in
theorem number_pass1 (s : ByteArray) (w : World) (h1 : 1 < s.size) (h0 : 0 < s.size) (h20 : s.size ≤ 20) (hs : sgn (lst s) = decide (1 = 1)) (hp : Pass (lst s)) :
    Calls Tryz.prog 48 #[.string s] w fun e w' => NumE (lst s) e ∧ w = w' := by
  have HL := dgs_len hs (by omega)
  have c0 : ((s.size : Int) == 0) = false := by rw [beq_eq_false_iff_ne]; omega
  have c20 : decide ((20 : Int) < (s.size : Int)) = false := by simp; omega
  have c45 : (((s[0]'h0).toNat : Int) == 45) = true := by rw [← sgn_at h0, hs]; rfl
  have cl : ((1 : Int) == (s.size : Int)) = false := by rw [beq_eq_false_iff_ne]; omega
  have D := Lib.hid (fun w => digits_to s 1 1 s.size w (by omega) (by omega) rfl ((run_all hs (by omega) (by omega : 1 ≤ s.size)).2 hp.can.2.1))
  have g : ((s.size : Int) != (s.size : Int)) = false := by simp
  have g19 : decide ((19 : Int) < (s.size : Int) - 1) = false := by
    have := hp.le
    simp; omega
  have HP := Lib.hid hp
  have HS := Lib.hid hs
  have z : (((s[1]'h1).toNat : Int) == 48) = false := by
    cases z : (((s[1]'h1).toNat : Int) == 48) with
    | false => rfl
    | true =>
      exfalso
      have h2 : (dgs (lst s)).head? = some 48 := by
        rw [dgs_at hs (by omega) h1]
        congr 1
        exact UInt8.toNat_inj.1 (by have := eq_of_beq z; show _ = 48; omega)
      have h3 := hp.can.2.2 h2
      refine hp.neg (by rw [hs]; rfl) ?_
      cases hd : dgs (lst s) with
      | nil => rw [hd] at h2; cases h2
      | cons a l =>
        rw [hd] at h2 h3
        injection h2 with h2
        have : l = [] := by simpa using h3
        rw [h2, this]
  (
      go_enter Tryz.func48, Tryz.ntmps48
      go_wp2_with fail
      (with_reducible refine (D.out _).mono ?_)
      rintro e w' ⟨rfl, rfl⟩
      go_wp2_with fail
      go_loopw [5, 6] (fun nv kv wr => ∃ (k n : Nat), kv = .int .i64 k ∧ nv = .int .i64 n ∧ 1 ≤ k ∧ k ≤ s.size ∧ n = dv 0 ((dgs (lst s)).take (k - 1)) ∧ n ≤ 4611686018427387904 ∧ w = wr) (fun _ kv _ => s.size - (intOf kv).toNat)
      case atStart => exact ⟨1, 0, rfl, rfl, by omega, by omega, rfl, by omega, rfl⟩
      case round =>
        obtain ⟨k, n, rfl, rfl, hk1, hk2, hn, hn2, rfl⟩ := hrel
        by_cases hlt : k < s.size
        · obtain ⟨d1, d2⟩ := num_dig HS.out (by omega) hk1 hlt HP.out
          have HU := Lib.hid (num_sum HS.out (by omega) hk1 hlt)
          have HN := Lib.hid hn
          have qt := quo_ten (d := ((s[k]'hlt).toNat : Int) - 48) (by omega) (by omega)
          clear hn
          cases big : decide ((4611686018427387904 - (((s[k]'hlt).toNat : Int) - 48)) / 10 < (n : Int))
          · have hb : ¬ ((4611686018427387904 - (((s[k]'hlt).toNat : Int) - 48)) / 10 < (n : Int)) := by simpa using big
            go_wp2_with fail
            go_roundw
            case rel => exact ⟨k + 1, n * 10 + ((s[k]'hlt).toNat - 48), by go_num, by go_num, by omega, by omega, by rw [HU.out, ← HN.out], by omega, by trivial⟩
            case measure =>
              simp [intOf]
              omega
          · have hb : (4611686018427387904 - (((s[k]'hlt).toNat : Int) - 48)) / 10 < (n : Int) := by simpa using big
            have HX : Hid (¬ (Pass (lst s) ∧ dv 0 (dgs (lst s)) ≤ 4611686018427387903)) := Lib.hid (fun h => by
              have h2 := dv_take (dgs (lst s)) (k + 1 - 1)
              have h3 := HU.out
              rw [← HN.out] at h3
              have := h.2
              omega)
            go_wp2_with fail
            go_ret2
            exact ⟨num_no HX.out 0, by trivial⟩
        · have he : k = s.size := by omega
          subst he
          rw [num_full HS.out (by omega)] at hn
          have HN := Lib.hid hn
          clear hn
          cases big : decide ((n : Int) ≤ 4611686018427387903)
          · have hb : ¬ ((n : Int) ≤ 4611686018427387903) := by simpa using big
            have HX : Hid (¬ (Pass (lst s) ∧ dv 0 (dgs (lst s)) ≤ 4611686018427387903)) := Lib.hid (fun h => by have := h.2; rw [← HN.out] at this; omega)
            go_wp2_with fail
            all_goals
              go_ret2
              exact ⟨⟨_, false, ret_two (by rfl) (by first | (simp; done) | (simp; omega)), ref_no HX.out⟩, by trivial⟩
          · have hb : (n : Int) ≤ 4611686018427387903 := by simpa using big
            have HX := Lib.hid (ref_yes HP.out (by rw [← HN.out]; omega))
            rw [HS.out, ← HN.out] at HX
            go_wp2_with fail
            all_goals
              go_ret2
              exact ⟨⟨_, true, ret_two (by rfl) (by first | (simp; done) | (simp; omega)), HX.out⟩, by trivial⟩
  )
theorem ref_number (s : ByteArray) (w : World) (hs : s.size ≤ 262144) : Calls Tryz.prog 48 #[.string s] w fun e w' => NumE (lst s) e ∧ w = w' := by
  by_cases h0 : 0 < s.size
  · by_cases h20 : s.size ≤ 20
    · cases hs1 : sgn (lst s) with
      | true =>
        by_cases h1 : 1 < s.size
        · by_cases hp : Pass (lst s)
          · exact number_pass1 s w h1 h0 h20 (by rw [hs1]; rfl) hp
          · exact number_fail1 s w h1 h0 h20 (by rw [hs1]; rfl) hp
        · have hn := Lib.hid (fun v => num_no (l := lst s) (fun h => h.1.can.1 (List.eq_nil_of_length_eq_zero (by rw [dgs_len (i := 1) (by rw [hs1]; rfl) (by omega)]; omega))) v)
          have c0 : ((s.size : Int) == 0) = false := by rw [beq_eq_false_iff_ne]; omega
          have c20 : decide ((20 : Int) < (s.size : Int)) = false := by simp; omega
          have c45 : (((s[0]'h0).toNat : Int) == 45) = true := by rw [← sgn_at h0, hs1]
          have cl : ((1 : Int) == (s.size : Int)) = true := by rw [beq_iff_eq]; omega
          clear hs1
          go_enter Tryz.func48, Tryz.ntmps48
          go_wp2_with fail
          go_ret2
          exact ⟨hn.out 0, rfl⟩
      | false =>
        by_cases hp : Pass (lst s)
        · exact number_pass0 s w h0 h0 h20 (by rw [hs1]; rfl) hp
        · exact number_fail0 s w h0 h0 h20 (by rw [hs1]; rfl) hp
    · have hn := Lib.hid (fun v => num_no (l := lst s) (fun h => by
        have h1 := h.1.le
        have h2 : (lst s).length ≤ (dgs (lst s)).length + 1 := by
          unfold dgs
          split
          · rw [List.length_tail]; omega
          · omega
        rw [lst_len] at h2
        omega) v)
      have c0 : ((s.size : Int) == 0) = false := by rw [beq_eq_false_iff_ne]; omega
      have c20 : decide ((20 : Int) < (s.size : Int)) = true := by simp; omega
      go_enter Tryz.func48, Tryz.ntmps48
      go_wp2_with fail
      go_ret2
      exact ⟨hn.out 0, rfl⟩
  · have hn := Lib.hid (fun v => num_no (l := lst s) (fun h => h.1.can.1 (by
      have : lst s = [] := List.eq_nil_of_length_eq_zero (by rw [lst_len]; omega)
      rw [this]; rfl)) v)
    have c0 : ((s.size : Int) == 0) = true := by rw [beq_iff_eq]; omega
    go_enter Tryz.func48, Tryz.ntmps48
    go_wp2_with fail
    go_ret2
    exact ⟨hn.out 0, rfl⟩
end Go.Proofs.YtlpafnibcmcjgaaGreatDoor
