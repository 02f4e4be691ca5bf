/- The document's At: numbers, and what is none. -/
import Derived.Test.YtlilfmpikampgaaGreatDoorPD7
namespace Go.Proofs.YtlilfmpikampgaaGreatDoor
open Go.RowKit

set_option maxRecDepth 100000 in
set_option maxHeartbeats 8000000 in
theorem at_digit (s : ByteArray) (i j : Nat) (w : World) (hs : s.size ≤ 262144) (hij : i ≤ j) (HBL : Hid (∀ p, i ≤ p → p < j → ∃ hp : p < s.size, isBl (s[p]'hp) = true)) (hj : j < s.size) (hbl : isBl (s[j]'hj) = false) (hb : isDig (s[j]'hj) = true) :
    Calls Tryz.prog 38 #[.string s, .int .i64 i] w fun v w' => TokE s j v ∧ Only [] w w' := by
  have rs := store_com
  have B1 := Lib.hid (Bk.made w 82 Z11)
  have O0 := Lib.hid ((Only.refl [] w).alloc (.cells Z11 82))
  have CB := Lib.hid (fun w => ref_blank (s[j]'hj) w)
  rw [hbl] at CB
  have hb2 := isDig_bd hb
  have g123 : (((s[j]'hj).toNat : Int) == 123) = false := by rw [beq_eq_false_iff_ne]; omega
  have g125 : (((s[j]'hj).toNat : Int) == 125) = false := by rw [beq_eq_false_iff_ne]; omega
  have g91 : (((s[j]'hj).toNat : Int) == 91) = false := by rw [beq_eq_false_iff_ne]; omega
  have g93 : (((s[j]'hj).toNat : Int) == 93) = false := by rw [beq_eq_false_iff_ne]; omega
  have g44 : (((s[j]'hj).toNat : Int) == 44) = false := by rw [beq_eq_false_iff_ne]; omega
  have g45 : (((s[j]'hj).toNat : Int) == 45) = false := by rw [beq_eq_false_iff_ne]; omega
  have hsm : isSm (s[j]'hj) = false := by simp [isSm]; omega
  have CS := Lib.hid (fun w => ref_small (s[j]'hj) w)
  rw [hsm] at CS
  obtain ⟨e, he⟩ : ∃ e, j + 1 + runOf isDig ((lst s).drop (j + 1)) = e := ⟨_, rfl⟩
  have h1 : j + 1 ≤ e := by omega
  have D0 := Lib.hid (fun w => digits_to s (j : Int) j e w hs (by omega) rfl (by rw [rof_yes hj hb]; omega))
  have M := Lib.hid (fun w => number_tok s j e w hs hj (.inl hb) he (by omega))
  clear hb2 hb hbl he hsm
  by_cases h2 : j + 1 < e
  · have h3 : (j : Int) + 1 < (e : Int) := by omega
    go_enter Tryz.func38, Tryz.ntmps38
    go_wp2_with fail
    go_loopw [1] (fun iv wr => ∃ p : Nat, iv = .int .i64 p ∧ i ≤ p ∧ p ≤ j ∧ w.alloc (.cells Z11 82) = wr) (fun iv _ => s.size - (intOf iv).toNat)
    case atStart => exact ⟨i, rfl, by omega, hij, rfl⟩
    case round =>
      obtain ⟨p, rfl, hp1, hp2, rfl⟩ := hrel
      by_cases hlt : p < j
      · obtain ⟨hps, hpb⟩ := HBL.out p hp1 hlt
        have C := Lib.hid (fun w => ref_blank (s[p]'hps) w)
        rw [hpb] at C
        clear hpb
        go_wp2_with fail
        (with_reducible refine (C.out _).mono ?_)
        rintro e1 w' ⟨rfl, rfl⟩
        go_wp2_with fail
        go_roundw
        case rel => exact ⟨p + 1, by go_num, by omega, by omega, by trivial⟩
        case measure =>
          simp [intOf]
          omega
      · have he : j = p := by omega
        subst he
        clear hlt hp2
        go_wp2_with fail
        (with_reducible refine (CB.out _).mono ?_)
        rintro e1 w' ⟨rfl, rfl⟩
        go_wp2_with fail
        (with_reducible refine (CS.out _).mono ?_)
        rintro e1 w' ⟨rfl, rfl⟩
        go_wp2_with fail
        (with_reducible refine (D0.out _).mono ?_)
        rintro e1 w' ⟨rfl, rfl⟩
        go_wp2_with fail
        (with_reducible refine (M.out _).mono ?_)
        rintro e1 w1 ⟨ht, o1⟩
        have HT := Lib.hid ht
        obtain ⟨kd, sg', k', n', x, y, S, a, b, e', rfl⟩ := tokE_cells ht
        obtain ⟨z0, z1, z2, z3, z4, z5, z6, z7, z8, z9, z10⟩ := (B1.out.only o1 (by simp)).eleven
        have zf := (B1.out.only o1 (by simp)).free
        have O1 := Lib.hid (O0.out.trans o1 (by simp))
        clear o1 ht
        go_wp2_with fail
        refine bodyPost_ret (v := .agg (tks kd sg' k' n' x y S a b (.slice none 0 0) j e')) (by simp [results, Tryz.results38, go_sem, z0, z1, z2, z3, z4, z5, z6, z7, z8, z9, z10]) rfl ⟨HT.out, ?_⟩
        exact O1.out.set11 (by omega)
  · have h3 : ¬ ((j : Int) + 1 < (e : Int)) := by omega
    have h4 : ((e : Int) == (j : Int) + 1) = true := by rw [beq_iff_eq]; omega
    have g45' : (((s[j]'hj).toNat : Int) != 45) = true := by rw [bne, g45]; rfl
    go_enter Tryz.func38, Tryz.ntmps38
    go_wp2_with fail
    go_loopw [1] (fun iv wr => ∃ p : Nat, iv = .int .i64 p ∧ i ≤ p ∧ p ≤ j ∧ w.alloc (.cells Z11 82) = wr) (fun iv _ => s.size - (intOf iv).toNat)
    case atStart => exact ⟨i, rfl, by omega, hij, rfl⟩
    case round =>
      obtain ⟨p, rfl, hp1, hp2, rfl⟩ := hrel
      by_cases hlt : p < j
      · obtain ⟨hps, hpb⟩ := HBL.out p hp1 hlt
        have C := Lib.hid (fun w => ref_blank (s[p]'hps) w)
        rw [hpb] at C
        clear hpb
        go_wp2_with fail
        (with_reducible refine (C.out _).mono ?_)
        rintro e1 w' ⟨rfl, rfl⟩
        go_wp2_with fail
        go_roundw
        case rel => exact ⟨p + 1, by go_num, by omega, by omega, by trivial⟩
        case measure =>
          simp [intOf]
          omega
      · have he : j = p := by omega
        subst he
        clear hlt hp2
        go_wp2_with fail
        (with_reducible refine (CB.out _).mono ?_)
        rintro e1 w' ⟨rfl, rfl⟩
        go_wp2_with fail
        (with_reducible refine (CS.out _).mono ?_)
        rintro e1 w' ⟨rfl, rfl⟩
        go_wp2_with fail
        (with_reducible refine (D0.out _).mono ?_)
        rintro e1 w' ⟨rfl, rfl⟩
        go_wp2_with fail
        (with_reducible refine (M.out _).mono ?_)
        rintro e1 w1 ⟨ht, o1⟩
        have HT := Lib.hid ht
        obtain ⟨kd, sg', k', n', x, y, S, a, b, e', rfl⟩ := tokE_cells ht
        obtain ⟨z0, z1, z2, z3, z4, z5, z6, z7, z8, z9, z10⟩ := (B1.out.only o1 (by simp)).eleven
        have zf := (B1.out.only o1 (by simp)).free
        have O1 := Lib.hid (O0.out.trans o1 (by simp))
        clear o1 ht
        go_wp2_with fail
        refine bodyPost_ret (v := .agg (tks kd sg' k' n' x y S a b (.slice none 0 0) j e')) (by simp [results, Tryz.results38, go_sem, z0, z1, z2, z3, z4, z5, z6, z7, z8, z9, z10]) rfl ⟨HT.out, ?_⟩
        exact O1.out.set11 (by omega)
set_option maxRecDepth 100000 in
set_option maxHeartbeats 8000000 in
theorem at_minus (s : ByteArray) (i j : Nat) (w : World) (hs : s.size ≤ 262144) (hij : i ≤ j) (HBL : Hid (∀ p, i ≤ p → p < j → ∃ hp : p < s.size, isBl (s[p]'hp) = true)) (hj : j < s.size) (hbl : isBl (s[j]'hj) = false) (hb : (s[j]'hj).toNat = 45) :
    Calls Tryz.prog 38 #[.string s, .int .i64 i] w fun v w' => TokE s j v ∧ Only [] w w' := by
  have rs := store_com
  have B1 := Lib.hid (Bk.made w 82 Z11)
  have O0 := Lib.hid ((Only.refl [] w).alloc (.cells Z11 82))
  have CB := Lib.hid (fun w => ref_blank (s[j]'hj) w)
  rw [hbl] at CB
  have g123 : (((s[j]'hj).toNat : Int) == 123) = false := by rw [beq_eq_false_iff_ne]; omega
  have g125 : (((s[j]'hj).toNat : Int) == 125) = false := by rw [beq_eq_false_iff_ne]; omega
  have g91 : (((s[j]'hj).toNat : Int) == 91) = false := by rw [beq_eq_false_iff_ne]; omega
  have g93 : (((s[j]'hj).toNat : Int) == 93) = false := by rw [beq_eq_false_iff_ne]; omega
  have g44 : (((s[j]'hj).toNat : Int) == 44) = false := by rw [beq_eq_false_iff_ne]; omega
  have g45 : (((s[j]'hj).toNat : Int) == 45) = true := by rw [beq_iff_eq]; omega
  have g35 : (((s[j]'hj).toNat : Int) == 35) = false := by rw [beq_eq_false_iff_ne]; omega
  have g60 : (((s[j]'hj).toNat : Int) == 60) = false := by rw [beq_eq_false_iff_ne]; omega
  have hsm : isSm (s[j]'hj) = false := by simp [isSm]; omega
  have hdg : isDig (s[j]'hj) = false := by simp [isDig]; omega
  have CS := Lib.hid (fun w => ref_small (s[j]'hj) w)
  rw [hsm] at CS
  have D0 := Lib.hid (fun w => digits_to s (j : Int) j j w hs (by omega) rfl (by rw [rof_no hj hdg]; rfl))
  obtain ⟨e, he⟩ : ∃ e, j + 1 + runOf isDig ((lst s).drop (j + 1)) = e := ⟨_, rfl⟩
  have h1 : j + 1 ≤ e := by omega
  have D1 := Lib.hid (fun w => digits_to s ((j : Int) + 1) (j + 1) e w hs (by omega) (by omega) he)
  by_cases h2 : j + 1 < e
  · have h3 : (j : Int) + 1 < (e : Int) := by omega
    have M := Lib.hid (fun w => number_tok s j e w hs hj (.inr hb) he (by omega))
    clear hb hbl he hsm hdg
    go_enter Tryz.func38, Tryz.ntmps38
    go_wp2_with fail
    go_loopw [1] (fun iv wr => ∃ p : Nat, iv = .int .i64 p ∧ i ≤ p ∧ p ≤ j ∧ w.alloc (.cells Z11 82) = wr) (fun iv _ => s.size - (intOf iv).toNat)
    case atStart => exact ⟨i, rfl, by omega, hij, rfl⟩
    case round =>
      obtain ⟨p, rfl, hp1, hp2, rfl⟩ := hrel
      by_cases hlt : p < j
      · obtain ⟨hps, hpb⟩ := HBL.out p hp1 hlt
        have C := Lib.hid (fun w => ref_blank (s[p]'hps) w)
        rw [hpb] at C
        clear hpb
        go_wp2_with fail
        (with_reducible refine (C.out _).mono ?_)
        rintro e1 w' ⟨rfl, rfl⟩
        go_wp2_with fail
        go_roundw
        case rel => exact ⟨p + 1, by go_num, by omega, by omega, by trivial⟩
        case measure =>
          simp [intOf]
          omega
      · have he : j = p := by omega
        subst he
        clear hlt hp2
        go_wp2_with fail
        (with_reducible refine (CB.out _).mono ?_)
        rintro e1 w' ⟨rfl, rfl⟩
        go_wp2_with fail
        (with_reducible refine (CS.out _).mono ?_)
        rintro e1 w' ⟨rfl, rfl⟩
        go_wp2_with fail
        (with_reducible refine (D0.out _).mono ?_)
        rintro e1 w' ⟨rfl, rfl⟩
        go_wp2_with fail
        (with_reducible refine (D1.out _).mono ?_)
        rintro e1 w' ⟨rfl, rfl⟩
        go_wp2_with fail
        (with_reducible refine (M.out _).mono ?_)
        rintro e1 w1 ⟨ht, o1⟩
        have HT := Lib.hid ht
        obtain ⟨kd, sg', k', n', x, y, S, a, b, e', rfl⟩ := tokE_cells ht
        obtain ⟨z0, z1, z2, z3, z4, z5, z6, z7, z8, z9, z10⟩ := (B1.out.only o1 (by simp)).eleven
        have zf := (B1.out.only o1 (by simp)).free
        have O1 := Lib.hid (O0.out.trans o1 (by simp))
        clear o1 ht
        go_wp2_with fail
        refine bodyPost_ret (v := .agg (tks kd sg' k' n' x y S a b (.slice none 0 0) j e')) (by simp [results, Tryz.results38, go_sem, z0, z1, z2, z3, z4, z5, z6, z7, z8, z9, z10]) rfl ⟨HT.out, ?_⟩
        exact O1.out.set11 (by omega)
  · have h3 : ¬ ((j : Int) + 1 < (e : Int)) := by omega
    have h4 : ((e : Int) == (j : Int) + 1) = true := by rw [beq_iff_eq]; omega
    have g45' : (((s[j]'hj).toNat : Int) != 45) = false := by rw [bne, g45]; rfl
    have HX := Lib.hid (tk_minus (lst_at hj) hb (by omega))
    clear hb hbl he hsm hdg
    go_enter Tryz.func38, Tryz.ntmps38
    go_wp2_with fail
    go_loopw [1] (fun iv wr => ∃ p : Nat, iv = .int .i64 p ∧ i ≤ p ∧ p ≤ j ∧ w.alloc (.cells Z11 82) = wr) (fun iv _ => s.size - (intOf iv).toNat)
    case atStart => exact ⟨i, rfl, by omega, hij, rfl⟩
    case round =>
      obtain ⟨p, rfl, hp1, hp2, rfl⟩ := hrel
      by_cases hlt : p < j
      · obtain ⟨hps, hpb⟩ := HBL.out p hp1 hlt
        have C := Lib.hid (fun w => ref_blank (s[p]'hps) w)
        rw [hpb] at C
        clear hpb
        go_wp2_with fail
        (with_reducible refine (C.out _).mono ?_)
        rintro e1 w' ⟨rfl, rfl⟩
        go_wp2_with fail
        go_roundw
        case rel => exact ⟨p + 1, by go_num, by omega, by omega, by trivial⟩
        case measure =>
          simp [intOf]
          omega
      · have he : j = p := by omega
        subst he
        clear hlt hp2
        go_wp2_with fail
        (with_reducible refine (CB.out _).mono ?_)
        rintro e1 w' ⟨rfl, rfl⟩
        go_wp2_with fail
        (with_reducible refine (CS.out _).mono ?_)
        rintro e1 w' ⟨rfl, rfl⟩
        go_wp2_with fail
        (with_reducible refine (D0.out _).mono ?_)
        rintro e1 w' ⟨rfl, rfl⟩
        go_wp2_with fail
        (with_reducible refine (D1.out _).mono ?_)
        rintro e1 w' ⟨rfl, rfl⟩
        go_wp2_with fail
        (with_reducible refine (D1.out _).mono ?_)
        rintro e1 w' ⟨rfl, rfl⟩
        go_wp2_with fail
        refine bodyPost_ret (v := .agg (tkB j ((j : Int) + 1))) (by simp [results, Tryz.results38, go_sem]) rfl ⟨tokE_bad HX.out _, ?_⟩
        exact (Only.refl [] w).alloc _
set_option maxRecDepth 100000 in
set_option maxHeartbeats 8000000 in
theorem at_none (s : ByteArray) (i j : Nat) (w : World) (hs : s.size ≤ 262144) (hij : i ≤ j) (HBL : Hid (∀ p, i ≤ p → p < j → ∃ hp : p < s.size, isBl (s[p]'hp) = true)) (hj : j < s.size) (hbl : isBl (s[j]'hj) = false) (h0 : isSg (s[j]'hj) = false) (hsm : isSm (s[j]'hj) = false) (hdg : isDig (s[j]'hj) = false) (hb : (s[j]'hj).toNat ≠ 45 ∧ (s[j]'hj).toNat ≠ 35 ∧ (s[j]'hj).toNat ≠ 60) :
    Calls Tryz.prog 38 #[.string s, .int .i64 i] w fun v w' => TokE s j v ∧ Only [] w w' := by
  have rs := store_com
  have B1 := Lib.hid (Bk.made w 82 Z11)
  have O0 := Lib.hid ((Only.refl [] w).alloc (.cells Z11 82))
  have CB := Lib.hid (fun w => ref_blank (s[j]'hj) w)
  rw [hbl] at CB
  have h0' : ¬ ((s[j]'hj).toNat = 123) ∧ ¬ ((s[j]'hj).toNat = 125) ∧ ¬ ((s[j]'hj).toNat = 91) ∧ ¬ ((s[j]'hj).toNat = 93) ∧ ¬ ((s[j]'hj).toNat = 44) := by
    simp only [isSg, Bool.or_eq_false_iff, decide_eq_false_iff_not] at h0
    omega
  have g123 : (((s[j]'hj).toNat : Int) == 123) = false := by rw [beq_eq_false_iff_ne]; omega
  have g125 : (((s[j]'hj).toNat : Int) == 125) = false := by rw [beq_eq_false_iff_ne]; omega
  have g91 : (((s[j]'hj).toNat : Int) == 91) = false := by rw [beq_eq_false_iff_ne]; omega
  have g93 : (((s[j]'hj).toNat : Int) == 93) = false := by rw [beq_eq_false_iff_ne]; omega
  have g44 : (((s[j]'hj).toNat : Int) == 44) = false := by rw [beq_eq_false_iff_ne]; omega
  have g45 : (((s[j]'hj).toNat : Int) == 45) = false := by rw [beq_eq_false_iff_ne]; omega
  have g35 : (((s[j]'hj).toNat : Int) == 35) = false := by rw [beq_eq_false_iff_ne]; omega
  have g60 : (((s[j]'hj).toNat : Int) == 60) = false := by rw [beq_eq_false_iff_ne]; omega
  have CS := Lib.hid (fun w => ref_small (s[j]'hj) w)
  rw [hsm] at CS
  have D0 := Lib.hid (fun w => digits_to s (j : Int) j j w hs (by omega) rfl (by rw [rof_no hj hdg]; rfl))
  have h5 : ¬ ((j : Int) + 1 < (j : Int)) := by omega
  have h6 : ((j : Int) == (j : Int) + 1) = false := by rw [beq_eq_false_iff_ne]; omega
  obtain ⟨e, he⟩ : ∃ e, j + 1 + runOf isDig ((lst s).drop (j + 1)) = e := ⟨_, rfl⟩
  have D1 := Lib.hid (fun w => digits_to s ((j : Int) + 1) (j + 1) e w hs (by omega) (by omega) he)
  have HX := Lib.hid (tk_none (lst_at hj) h0 hsm hdg hb.1 hb.2.2 hb.2.1)
  clear h0 h0' hsm hdg hb hbl he
  go_enter Tryz.func38, Tryz.ntmps38
  go_wp2_with fail
  go_loopw [1] (fun iv wr => ∃ p : Nat, iv = .int .i64 p ∧ i ≤ p ∧ p ≤ j ∧ w.alloc (.cells Z11 82) = wr) (fun iv _ => s.size - (intOf iv).toNat)
  case atStart => exact ⟨i, rfl, by omega, hij, rfl⟩
  case round =>
    obtain ⟨p, rfl, hp1, hp2, rfl⟩ := hrel
    by_cases hlt : p < j
    · obtain ⟨hps, hpb⟩ := HBL.out p hp1 hlt
      have C := Lib.hid (fun w => ref_blank (s[p]'hps) w)
      rw [hpb] at C
      clear hpb
      go_wp2_with fail
      (with_reducible refine (C.out _).mono ?_)
      rintro e1 w' ⟨rfl, rfl⟩
      go_wp2_with fail
      go_roundw
      case rel => exact ⟨p + 1, by go_num, by omega, by omega, by trivial⟩
      case measure =>
        simp [intOf]
        omega
    · have he : j = p := by omega
      subst he
      clear hlt hp2
      go_wp2_with fail
      (with_reducible refine (CB.out _).mono ?_)
      rintro e1 w' ⟨rfl, rfl⟩
      go_wp2_with fail
      (with_reducible refine (CS.out _).mono ?_)
      rintro e1 w' ⟨rfl, rfl⟩
      go_wp2_with fail
      (with_reducible refine (D0.out _).mono ?_)
      rintro e1 w' ⟨rfl, rfl⟩
      go_wp2_with fail
      (with_reducible refine (D1.out _).mono ?_)
      rintro e1 w' ⟨rfl, rfl⟩
      go_wp2_with fail
      refine bodyPost_ret (v := .agg (tkB j ((j : Int) + 1))) (by simp [results, Tryz.results38, go_sem]) rfl ⟨tokE_bad HX.out _, ?_⟩
      exact (Only.refl [] w).alloc _
end Go.Proofs.YtlilfmpikampgaaGreatDoor
