/- The document's At: refs and pids. The document's At: any token. -/
import Derived.Test.YtlilfmpikampgaaGreatDoorPD7
import Derived.Test.YtlilfmpikampgaaGreatDoorPDa
import Derived.Test.YtlilfmpikampgaaGreatDoorPDb
namespace Go.Proofs.YtlilfmpikampgaaGreatDoor
open Go.RowKit

set_option maxRecDepth 100000 in
set_option maxHeartbeats 8000000 in
theorem at_ref (s : ByteArray) (i j : Nat) (w : World) (hs : s.size ≤ 262144) (hij : i ≤ j) (HBL : Hid (∀ p, i ≤ p → p < j → ∃ hp : p < s.size, isBl (s[p]'hp) = true)) (hj : j < s.size) (hbl : isBl (s[j]'hj) = false) (hb : (s[j]'hj).toNat = 35) :
    Calls Tryz.prog 38 #[.string s, .int .i64 i] w fun v w' => TokE s j v ∧ Only [] w w' := by
  have rs := store_com
  have B1 := Lib.hid (Bk.made w 82 Z11)
  have O0 := Lib.hid ((Only.refl [] w).alloc (.cells Z11 82))
  have CB := Lib.hid (fun w => ref_blank (s[j]'hj) w)
  rw [hbl] at CB
  have g123 : (((s[j]'hj).toNat : Int) == 123) = false := by rw [beq_eq_false_iff_ne]; omega
  have g125 : (((s[j]'hj).toNat : Int) == 125) = false := by rw [beq_eq_false_iff_ne]; omega
  have g91 : (((s[j]'hj).toNat : Int) == 91) = false := by rw [beq_eq_false_iff_ne]; omega
  have g93 : (((s[j]'hj).toNat : Int) == 93) = false := by rw [beq_eq_false_iff_ne]; omega
  have g44 : (((s[j]'hj).toNat : Int) == 44) = false := by rw [beq_eq_false_iff_ne]; omega
  have g45 : (((s[j]'hj).toNat : Int) == 45) = false := by rw [beq_eq_false_iff_ne]; omega
  have g35 : (((s[j]'hj).toNat : Int) == 35) = true := by rw [beq_iff_eq]; omega
  have g60 : (((s[j]'hj).toNat : Int) == 60) = false := by rw [beq_eq_false_iff_ne]; omega
  have hsm : isSm (s[j]'hj) = false := by simp [isSm]; omega
  have hdg : isDig (s[j]'hj) = false := by simp [isDig]; omega
  have CS := Lib.hid (fun w => ref_small (s[j]'hj) w)
  rw [hsm] at CS
  have D0 := Lib.hid (fun w => digits_to s (j : Int) j j w hs (by omega) rfl (by rw [rof_no hj hdg]; rfl))
  have h5 : ¬ ((j : Int) + 1 < (j : Int)) := by omega
  have h6 : ((j : Int) == (j : Int) + 1) = false := by rw [beq_eq_false_iff_ne]; omega
  obtain ⟨e, he⟩ : ∃ e, j + 1 + runOf isDig ((lst s).drop (j + 1)) = e := ⟨_, rfl⟩
  have h1 : j + 1 ≤ e := by omega
  have hf := fin_ref (lst_at hj) hb
  rw [he] at hf
  have h7 : e ≤ s.size := by have := (fin_bd hj).2; omega
  have D1 := Lib.hid (fun w => digits_to s ((j : Int) + 1) (j + 1) e w hs (by omega) (by omega) he)
  have ht := tk_ref (lst_at hj) hb
  rw [hf] at ht
  by_cases h2 : j + 1 < e
  · have h3 : (j : Int) + 1 < (e : Int) := by omega
    have NA := Lib.hid (fun w => number_to s (j + 1) e w hs)
    have HT0 := Lib.hid ht
    have HF := Lib.hid hf
    clear hb hbl he hsm hdg ht hf
    go_enter Tryz.func38, Tryz.ntmps38
    go_wp2_with fail
    go_loopw [1] (fun iv wr => ∃ p : Nat, iv = .int .i64 p ∧ i ≤ p ∧ p ≤ j ∧ w.alloc (.cells Z11 82) = wr) (fun iv _ => s.size - (intOf iv).toNat)
    case atStart => exact ⟨i, rfl, by omega, hij, rfl⟩
    case round =>
      obtain ⟨p, rfl, hp1, hp2, rfl⟩ := hrel
      by_cases hlt : p < j
      · obtain ⟨hps, hpb⟩ := HBL.out p hp1 hlt
        have C := Lib.hid (fun w => ref_blank (s[p]'hps) w)
        rw [hpb] at C
        clear hpb
        go_wp2_with fail
        (with_reducible refine (C.out _).mono ?_)
        rintro e1 w' ⟨rfl, rfl⟩
        go_wp2_with fail
        go_roundw
        case rel => exact ⟨p + 1, by go_num, by omega, by omega, by trivial⟩
        case measure =>
          simp [intOf]
          omega
      · have he : j = p := by omega
        subst he
        clear hlt hp2
        go_wp2_with fail
        (with_reducible refine (CB.out _).mono ?_)
        rintro e1 w' ⟨rfl, rfl⟩
        go_wp2_with fail
        (with_reducible refine (CS.out _).mono ?_)
        rintro e1 w' ⟨rfl, rfl⟩
        go_wp2_with fail
        (with_reducible refine (D0.out _).mono ?_)
        rintro e1 w' ⟨rfl, rfl⟩
        go_wp2_with fail
        (with_reducible refine (D1.out _).mono ?_)
        rintro e1 w' ⟨rfl, rfl⟩
        go_wp2_with fail
        (with_reducible refine (NA.out _).mono ?_)
        rintro v0 w0 ⟨⟨n, ok, rfl, hr⟩, rfl⟩
        have M := Lib.hid (fun w => (made_to (o := (refN (lst (s.extract (j + 1) e))).bind fun n => if okCnt n = true then some (.ref n) else none) (.ref n) trivial (by simp) ok 7 n 0 0 ⟨#[]⟩ 0 0 rfl j e w (by rw [hr]; cases ok <;> rfl)).mono fun v w' h => (⟨tokE_of HT0.out h.1 (by rw [HF.out]), h.2⟩ : TokE s j v ∧ Only [] w w'))
        clear hr
        go_wp2_with fail
        (with_reducible refine (M.out _).mono ?_)
        rintro e1 w1 ⟨ht, o1⟩
        have HT := Lib.hid ht
        obtain ⟨kd, sg', k', n', x, y, S, a, b, e', rfl⟩ := tokE_cells ht
        obtain ⟨z0, z1, z2, z3, z4, z5, z6, z7, z8, z9, z10⟩ := (B1.out.only o1 (by simp)).eleven
        have zf := (B1.out.only o1 (by simp)).free
        have O1 := Lib.hid (O0.out.trans o1 (by simp))
        clear o1 ht
        go_wp2_with fail
        refine bodyPost_ret (v := .agg (tks kd sg' k' n' x y S a b (.slice none 0 0) j e')) (by simp [results, Tryz.results38, go_sem, z0, z1, z2, z3, z4, z5, z6, z7, z8, z9, z10]) rfl ⟨HT.out, ?_⟩
        exact O1.out.set11 (by omega)
  · have h3 : ¬ ((j : Int) + 1 < (e : Int)) := by omega
    have HX : Hid (tkAt s j = .bad) := Lib.hid (by
      rw [ht, ext_lst, show e - (j + 1) = 0 by omega, List.take_zero, refN_of_none num_nil]
      rfl)
    clear hb hbl he hsm hdg ht hf
    go_enter Tryz.func38, Tryz.ntmps38
    go_wp2_with fail
    go_loopw [1] (fun iv wr => ∃ p : Nat, iv = .int .i64 p ∧ i ≤ p ∧ p ≤ j ∧ w.alloc (.cells Z11 82) = wr) (fun iv _ => s.size - (intOf iv).toNat)
    case atStart => exact ⟨i, rfl, by omega, hij, rfl⟩
    case round =>
      obtain ⟨p, rfl, hp1, hp2, rfl⟩ := hrel
      by_cases hlt : p < j
      · obtain ⟨hps, hpb⟩ := HBL.out p hp1 hlt
        have C := Lib.hid (fun w => ref_blank (s[p]'hps) w)
        rw [hpb] at C
        clear hpb
        go_wp2_with fail
        (with_reducible refine (C.out _).mono ?_)
        rintro e1 w' ⟨rfl, rfl⟩
        go_wp2_with fail
        go_roundw
        case rel => exact ⟨p + 1, by go_num, by omega, by omega, by trivial⟩
        case measure =>
          simp [intOf]
          omega
      · have he : j = p := by omega
        subst he
        clear hlt hp2
        go_wp2_with fail
        (with_reducible refine (CB.out _).mono ?_)
        rintro e1 w' ⟨rfl, rfl⟩
        go_wp2_with fail
        (with_reducible refine (CS.out _).mono ?_)
        rintro e1 w' ⟨rfl, rfl⟩
        go_wp2_with fail
        (with_reducible refine (D0.out _).mono ?_)
        rintro e1 w' ⟨rfl, rfl⟩
        go_wp2_with fail
        (with_reducible refine (D1.out _).mono ?_)
        rintro e1 w' ⟨rfl, rfl⟩
        go_wp2_with fail
        refine bodyPost_ret (v := .agg (tkB j ((j : Int) + 1))) (by simp [results, Tryz.results38, go_sem]) rfl ⟨tokE_bad HX.out _, ?_⟩
        exact (Only.refl [] w).alloc _
set_option maxRecDepth 100000 in
set_option maxHeartbeats 16000000 in
theorem at_pid (s : ByteArray) (i j : Nat) (w : World) (hs : s.size ≤ 262144) (hij : i ≤ j) (HBL : Hid (∀ p, i ≤ p → p < j → ∃ hp : p < s.size, isBl (s[p]'hp) = true)) (hj : j < s.size) (hbl : isBl (s[j]'hj) = false) (hb : (s[j]'hj).toNat = 60) :
    Calls Tryz.prog 38 #[.string s, .int .i64 i] w fun v w' => TokE s j v ∧ Only [] w w' := by
  have rs := store_com
  have B1 := Lib.hid (Bk.made w 82 Z11)
  have O0 := Lib.hid ((Only.refl [] w).alloc (.cells Z11 82))
  have CB := Lib.hid (fun w => ref_blank (s[j]'hj) w)
  rw [hbl] at CB
  have g123 : (((s[j]'hj).toNat : Int) == 123) = false := by rw [beq_eq_false_iff_ne]; omega
  have g125 : (((s[j]'hj).toNat : Int) == 125) = false := by rw [beq_eq_false_iff_ne]; omega
  have g91 : (((s[j]'hj).toNat : Int) == 91) = false := by rw [beq_eq_false_iff_ne]; omega
  have g93 : (((s[j]'hj).toNat : Int) == 93) = false := by rw [beq_eq_false_iff_ne]; omega
  have g44 : (((s[j]'hj).toNat : Int) == 44) = false := by rw [beq_eq_false_iff_ne]; omega
  have g45 : (((s[j]'hj).toNat : Int) == 45) = false := by rw [beq_eq_false_iff_ne]; omega
  have g35 : (((s[j]'hj).toNat : Int) == 35) = false := by rw [beq_eq_false_iff_ne]; omega
  have g60 : (((s[j]'hj).toNat : Int) == 60) = true := by rw [beq_iff_eq]; omega
  have hsm : isSm (s[j]'hj) = false := by simp [isSm]; omega
  have hdg : isDig (s[j]'hj) = false := by simp [isDig]; omega
  have CS := Lib.hid (fun w => ref_small (s[j]'hj) w)
  rw [hsm] at CS
  have D0 := Lib.hid (fun w => digits_to s (j : Int) j j w hs (by omega) rfl (by rw [rof_no hj hdg]; rfl))
  have h5 : ¬ ((j : Int) + 1 < (j : Int)) := by omega
  have h6 : ((j : Int) == (j : Int) + 1) = false := by rw [beq_eq_false_iff_ne]; omega
  obtain ⟨k, hk⟩ : ∃ k, runOf isDig ((lst s).drop (j + 1)) = k := ⟨_, rfl⟩
  obtain ⟨m, hm⟩ : ∃ m, runOf isDig ((lst s).drop (j + 1 + k + 1)) = m := ⟨_, rfl⟩
  obtain ⟨e, he⟩ : ∃ e, j + 1 + k = e := ⟨_, rfl⟩
  rw [he] at hm
  have hkl := runOf_le isDig ((lst s).drop (j + 1))
  rw [List.length_drop, lst_len, hk] at hkl
  have D1 := Lib.hid (fun w => digits_to s ((j : Int) + 1) (j + 1) e w hs (by omega) (by omega) (by rw [hk]; exact he))
  have hno := tk_pid_no (k := k) (m := m) (lst_at hj) hb hk (by rw [he]; exact hm)
  have hyes := tk_pid_yes (k := k) (m := m) (lst_at hj) hb hk (by rw [he]; exact hm)
  rw [he] at hno hyes
  by_cases h2 : j + 1 < e
  · have h3 : (j : Int) + 1 < (e : Int) := by omega
    by_cases h7 : e < s.size
    · cases c46 : (((s[e]'h7).toNat : Int) == 46) with
      | false =>
        have HX := Lib.hid (hno (fun h => by
          have := h.2.1
          rw [lst_at h7] at this
          injection this with this
          rw [this] at c46
          revert c46; decide))
        clear hb hbl hk hm he hsm hdg hno hyes hkl
        go_enter Tryz.func38, Tryz.ntmps38
        go_wp2_with fail
        go_loopw [1] (fun iv wr => ∃ p : Nat, iv = .int .i64 p ∧ i ≤ p ∧ p ≤ j ∧ w.alloc (.cells Z11 82) = wr) (fun iv _ => s.size - (intOf iv).toNat)
        case atStart => exact ⟨i, rfl, by omega, hij, rfl⟩
        case round =>
          obtain ⟨p, rfl, hp1, hp2, rfl⟩ := hrel
          by_cases hlt : p < j
          · obtain ⟨hps, hpb⟩ := HBL.out p hp1 hlt
            have C := Lib.hid (fun w => ref_blank (s[p]'hps) w)
            rw [hpb] at C
            clear hpb
            go_wp2_with fail
            (with_reducible refine (C.out _).mono ?_)
            rintro e1 w' ⟨rfl, rfl⟩
            go_wp2_with fail
            go_roundw
            case rel => exact ⟨p + 1, by go_num, by omega, by omega, by trivial⟩
            case measure =>
              simp [intOf]
              omega
          · have he : j = p := by omega
            subst he
            clear hlt hp2
            go_wp2_with fail
            (with_reducible refine (CB.out _).mono ?_)
            rintro e1 w' ⟨rfl, rfl⟩
            go_wp2_with fail
            (with_reducible refine (CS.out _).mono ?_)
            rintro e1 w' ⟨rfl, rfl⟩
            go_wp2_with fail
            (with_reducible refine (D0.out _).mono ?_)
            rintro e1 w' ⟨rfl, rfl⟩
            go_wp2_with fail
            (with_reducible refine (D1.out _).mono ?_)
            rintro e1 w' ⟨rfl, rfl⟩
            go_wp2_with fail
            refine bodyPost_ret (v := .agg (tkB j ((j : Int) + 1))) (by simp [results, Tryz.results38, go_sem]) rfl ⟨tokE_bad HX.out _, ?_⟩
            exact (Only.refl [] w).alloc _
      | true =>
        have hml := runOf_le isDig ((lst s).drop (e + 1))
        rw [List.length_drop, lst_len, hm] at hml
        obtain ⟨q, hq⟩ : ∃ q, e + 1 + m = q := ⟨_, rfl⟩
        rw [hq] at hno hyes
        have D2 := Lib.hid (fun w => digits_to s ((e : Int) + 1) (e + 1) q w hs (by omega) (by omega) (by rw [hm]; exact hq))
        have h46 : (lst s)[e]? = some 46 := by
          rw [lst_at h7]
          congr 1
          exact UInt8.toNat_inj.1 (by have := eq_of_beq c46; show _ = 46; omega)
        by_cases h8 : e + 1 < q
        · have h9 : (e : Int) + 1 < (q : Int) := by omega
          by_cases h10 : q < s.size
          · cases c62 : (((s[q]'h10).toNat : Int) == 62) with
            | false =>
              have HX := Lib.hid (hno (fun h => by
                have := h.2.2.2
                rw [lst_at h10] at this
                injection this with this
                rw [this] at c62
                revert c62; decide))
              clear hml hq h46
              clear hb hbl hk hm he hsm hdg hno hyes hkl
              go_enter Tryz.func38, Tryz.ntmps38
              go_wp2_with fail
              go_loopw [1] (fun iv wr => ∃ p : Nat, iv = .int .i64 p ∧ i ≤ p ∧ p ≤ j ∧ w.alloc (.cells Z11 82) = wr) (fun iv _ => s.size - (intOf iv).toNat)
              case atStart => exact ⟨i, rfl, by omega, hij, rfl⟩
              case round =>
                obtain ⟨p, rfl, hp1, hp2, rfl⟩ := hrel
                by_cases hlt : p < j
                · obtain ⟨hps, hpb⟩ := HBL.out p hp1 hlt
                  have C := Lib.hid (fun w => ref_blank (s[p]'hps) w)
                  rw [hpb] at C
                  clear hpb
                  go_wp2_with fail
                  (with_reducible refine (C.out _).mono ?_)
                  rintro e1 w' ⟨rfl, rfl⟩
                  go_wp2_with fail
                  go_roundw
                  case rel => exact ⟨p + 1, by go_num, by omega, by omega, by trivial⟩
                  case measure =>
                    simp [intOf]
                    omega
                · have he : j = p := by omega
                  subst he
                  clear hlt hp2
                  go_wp2_with fail
                  (with_reducible refine (CB.out _).mono ?_)
                  rintro e1 w' ⟨rfl, rfl⟩
                  go_wp2_with fail
                  (with_reducible refine (CS.out _).mono ?_)
                  rintro e1 w' ⟨rfl, rfl⟩
                  go_wp2_with fail
                  (with_reducible refine (D0.out _).mono ?_)
                  rintro e1 w' ⟨rfl, rfl⟩
                  go_wp2_with fail
                  (with_reducible refine (D1.out _).mono ?_)
                  rintro e1 w' ⟨rfl, rfl⟩
                  go_wp2_with fail
                  (with_reducible refine (D2.out _).mono ?_)
                  rintro e1 w' ⟨rfl, rfl⟩
                  go_wp2_with fail
                  refine bodyPost_ret (v := .agg (tkB j ((j : Int) + 1))) (by simp [results, Tryz.results38, go_sem]) rfl ⟨tokE_bad HX.out _, ?_⟩
                  exact (Only.refl [] w).alloc _
            | true =>
              have h62 : (lst s)[q]? = some 62 := by
                rw [lst_at h10]
                congr 1
                exact UInt8.toNat_inj.1 (by have := eq_of_beq c62; show _ = 62; omega)
              obtain ⟨hf, ht⟩ := hyes h46 h62
              have NA := Lib.hid (fun w => number_to s (j + 1) e w hs)
              have NB := Lib.hid (fun w => number_to s (e + 1) q w hs)
              have HT0 := Lib.hid ht
              have HF := Lib.hid hf
              clear hb hbl hk hm he hsm hdg hno hyes hkl hml hq h46 h62 hf ht
              go_enter Tryz.func38, Tryz.ntmps38
              go_wp2_with fail
              go_loopw [1] (fun iv wr => ∃ p : Nat, iv = .int .i64 p ∧ i ≤ p ∧ p ≤ j ∧ w.alloc (.cells Z11 82) = wr) (fun iv _ => s.size - (intOf iv).toNat)
              case atStart => exact ⟨i, rfl, by omega, hij, rfl⟩
              case round =>
                obtain ⟨p, rfl, hp1, hp2, rfl⟩ := hrel
                by_cases hlt : p < j
                · obtain ⟨hps, hpb⟩ := HBL.out p hp1 hlt
                  have C := Lib.hid (fun w => ref_blank (s[p]'hps) w)
                  rw [hpb] at C
                  clear hpb
                  go_wp2_with fail
                  (with_reducible refine (C.out _).mono ?_)
                  rintro e1 w' ⟨rfl, rfl⟩
                  go_wp2_with fail
                  go_roundw
                  case rel => exact ⟨p + 1, by go_num, by omega, by omega, by trivial⟩
                  case measure =>
                    simp [intOf]
                    omega
                · have he : j = p := by omega
                  subst he
                  clear hlt hp2
                  go_wp2_with fail
                  (with_reducible refine (CB.out _).mono ?_)
                  rintro e1 w' ⟨rfl, rfl⟩
                  go_wp2_with fail
                  (with_reducible refine (CS.out _).mono ?_)
                  rintro e1 w' ⟨rfl, rfl⟩
                  go_wp2_with fail
                  (with_reducible refine (D0.out _).mono ?_)
                  rintro e1 w' ⟨rfl, rfl⟩
                  go_wp2_with fail
                  (with_reducible refine (D1.out _).mono ?_)
                  rintro e1 w' ⟨rfl, rfl⟩
                  go_wp2_with fail
                  (with_reducible refine (D2.out _).mono ?_)
                  rintro e1 w' ⟨rfl, rfl⟩
                  go_wp2_with fail
                  (with_reducible refine (NA.out _).mono ?_)
                  rintro v0 w0 ⟨⟨n, ok, rfl, hr1⟩, rfl⟩
                  have HR1 := Lib.hid hr1
                  clear hr1
                  go_wp2_with fail
                  (with_reducible refine (NB.out _).mono ?_)
                  rintro v0 w0 ⟨⟨g, fine, rfl, hr2⟩, rfl⟩
                  have M := Lib.hid (fun w => (made_to (o := pidM (refN (lst (s.extract (j + 1) e))) (refN (lst (s.extract (e + 1) q)))) (.pid n g) trivial (by simp) (ok && fine) 6 0 0 0 ⟨#[]⟩ n g rfl j ((q : Int) + 1) w (by rw [HR1.out, hr2]; cases ok <;> cases fine <;> rfl)).mono fun v w' h => (⟨tokE_of HT0.out h.1 (by rw [HF.out]; omega), h.2⟩ : TokE s j v ∧ Only [] w w'))
                  clear hr2
                  cases ok <;> cases fine
                  all_goals
                    simp only [Bool.and_self, Bool.and_true, Bool.and_false] at M
                    go_wp2_with fail
                    (with_reducible refine (M.out _).mono ?_)
                    rintro e1 w1 ⟨ht, o1⟩
                    have HT := Lib.hid ht
                    obtain ⟨kd, sg', k', n', x, y, S, a, b, e', rfl⟩ := tokE_cells ht
                    obtain ⟨z0, z1, z2, z3, z4, z5, z6, z7, z8, z9, z10⟩ := (B1.out.only o1 (by simp)).eleven
                    have zf := (B1.out.only o1 (by simp)).free
                    have O1 := Lib.hid (O0.out.trans o1 (by simp))
                    clear o1 ht
                    go_wp2_with fail
                    refine bodyPost_ret (v := .agg (tks kd sg' k' n' x y S a b (.slice none 0 0) j e')) (by simp [results, Tryz.results38, go_sem, z0, z1, z2, z3, z4, z5, z6, z7, z8, z9, z10]) rfl ⟨HT.out, ?_⟩
                    exact O1.out.set11 (by omega)
          · have HX := Lib.hid (hno (fun h => by
              have := (List.getElem?_eq_some_iff.1 h.2.2.2).1
              rw [lst_len] at this
              omega))
            clear hml hq h46
            clear hb hbl hk hm he hsm hdg hno hyes hkl
            go_enter Tryz.func38, Tryz.ntmps38
            go_wp2_with fail
            go_loopw [1] (fun iv wr => ∃ p : Nat, iv = .int .i64 p ∧ i ≤ p ∧ p ≤ j ∧ w.alloc (.cells Z11 82) = wr) (fun iv _ => s.size - (intOf iv).toNat)
            case atStart => exact ⟨i, rfl, by omega, hij, rfl⟩
            case round =>
              obtain ⟨p, rfl, hp1, hp2, rfl⟩ := hrel
              by_cases hlt : p < j
              · obtain ⟨hps, hpb⟩ := HBL.out p hp1 hlt
                have C := Lib.hid (fun w => ref_blank (s[p]'hps) w)
                rw [hpb] at C
                clear hpb
                go_wp2_with fail
                (with_reducible refine (C.out _).mono ?_)
                rintro e1 w' ⟨rfl, rfl⟩
                go_wp2_with fail
                go_roundw
                case rel => exact ⟨p + 1, by go_num, by omega, by omega, by trivial⟩
                case measure =>
                  simp [intOf]
                  omega
              · have he : j = p := by omega
                subst he
                clear hlt hp2
                go_wp2_with fail
                (with_reducible refine (CB.out _).mono ?_)
                rintro e1 w' ⟨rfl, rfl⟩
                go_wp2_with fail
                (with_reducible refine (CS.out _).mono ?_)
                rintro e1 w' ⟨rfl, rfl⟩
                go_wp2_with fail
                (with_reducible refine (D0.out _).mono ?_)
                rintro e1 w' ⟨rfl, rfl⟩
                go_wp2_with fail
                (with_reducible refine (D1.out _).mono ?_)
                rintro e1 w' ⟨rfl, rfl⟩
                go_wp2_with fail
                (with_reducible refine (D2.out _).mono ?_)
                rintro e1 w' ⟨rfl, rfl⟩
                go_wp2_with fail
                refine bodyPost_ret (v := .agg (tkB j ((j : Int) + 1))) (by simp [results, Tryz.results38, go_sem]) rfl ⟨tokE_bad HX.out _, ?_⟩
                exact (Only.refl [] w).alloc _
        · have h9 : ¬ ((e : Int) + 1 < (q : Int)) := by omega
          have HX := Lib.hid (hno (fun h => by omega))
          clear hml hq h46
          clear hb hbl hk hm he hsm hdg hno hyes hkl
          go_enter Tryz.func38, Tryz.ntmps38
          go_wp2_with fail
          go_loopw [1] (fun iv wr => ∃ p : Nat, iv = .int .i64 p ∧ i ≤ p ∧ p ≤ j ∧ w.alloc (.cells Z11 82) = wr) (fun iv _ => s.size - (intOf iv).toNat)
          case atStart => exact ⟨i, rfl, by omega, hij, rfl⟩
          case round =>
            obtain ⟨p, rfl, hp1, hp2, rfl⟩ := hrel
            by_cases hlt : p < j
            · obtain ⟨hps, hpb⟩ := HBL.out p hp1 hlt
              have C := Lib.hid (fun w => ref_blank (s[p]'hps) w)
              rw [hpb] at C
              clear hpb
              go_wp2_with fail
              (with_reducible refine (C.out _).mono ?_)
              rintro e1 w' ⟨rfl, rfl⟩
              go_wp2_with fail
              go_roundw
              case rel => exact ⟨p + 1, by go_num, by omega, by omega, by trivial⟩
              case measure =>
                simp [intOf]
                omega
            · have he : j = p := by omega
              subst he
              clear hlt hp2
              go_wp2_with fail
              (with_reducible refine (CB.out _).mono ?_)
              rintro e1 w' ⟨rfl, rfl⟩
              go_wp2_with fail
              (with_reducible refine (CS.out _).mono ?_)
              rintro e1 w' ⟨rfl, rfl⟩
              go_wp2_with fail
              (with_reducible refine (D0.out _).mono ?_)
              rintro e1 w' ⟨rfl, rfl⟩
              go_wp2_with fail
              (with_reducible refine (D1.out _).mono ?_)
              rintro e1 w' ⟨rfl, rfl⟩
              go_wp2_with fail
              (with_reducible refine (D2.out _).mono ?_)
              rintro e1 w' ⟨rfl, rfl⟩
              go_wp2_with fail
              refine bodyPost_ret (v := .agg (tkB j ((j : Int) + 1))) (by simp [results, Tryz.results38, go_sem]) rfl ⟨tokE_bad HX.out _, ?_⟩
              exact (Only.refl [] w).alloc _
    · have HX := Lib.hid (hno (fun h => by
        have := (List.getElem?_eq_some_iff.1 h.2.1).1
        rw [lst_len] at this
        omega))
      clear hb hbl hk hm he hsm hdg hno hyes hkl
      go_enter Tryz.func38, Tryz.ntmps38
      go_wp2_with fail
      go_loopw [1] (fun iv wr => ∃ p : Nat, iv = .int .i64 p ∧ i ≤ p ∧ p ≤ j ∧ w.alloc (.cells Z11 82) = wr) (fun iv _ => s.size - (intOf iv).toNat)
      case atStart => exact ⟨i, rfl, by omega, hij, rfl⟩
      case round =>
        obtain ⟨p, rfl, hp1, hp2, rfl⟩ := hrel
        by_cases hlt : p < j
        · obtain ⟨hps, hpb⟩ := HBL.out p hp1 hlt
          have C := Lib.hid (fun w => ref_blank (s[p]'hps) w)
          rw [hpb] at C
          clear hpb
          go_wp2_with fail
          (with_reducible refine (C.out _).mono ?_)
          rintro e1 w' ⟨rfl, rfl⟩
          go_wp2_with fail
          go_roundw
          case rel => exact ⟨p + 1, by go_num, by omega, by omega, by trivial⟩
          case measure =>
            simp [intOf]
            omega
        · have he : j = p := by omega
          subst he
          clear hlt hp2
          go_wp2_with fail
          (with_reducible refine (CB.out _).mono ?_)
          rintro e1 w' ⟨rfl, rfl⟩
          go_wp2_with fail
          (with_reducible refine (CS.out _).mono ?_)
          rintro e1 w' ⟨rfl, rfl⟩
          go_wp2_with fail
          (with_reducible refine (D0.out _).mono ?_)
          rintro e1 w' ⟨rfl, rfl⟩
          go_wp2_with fail
          (with_reducible refine (D1.out _).mono ?_)
          rintro e1 w' ⟨rfl, rfl⟩
          go_wp2_with fail
          refine bodyPost_ret (v := .agg (tkB j ((j : Int) + 1))) (by simp [results, Tryz.results38, go_sem]) rfl ⟨tokE_bad HX.out _, ?_⟩
          exact (Only.refl [] w).alloc _
  · have h3 : ¬ ((j : Int) + 1 < (e : Int)) := by omega
    have HX := Lib.hid (hno (fun h => by omega))
    clear hb hbl hk hm he hsm hdg hno hyes hkl
    go_enter Tryz.func38, Tryz.ntmps38
    go_wp2_with fail
    go_loopw [1] (fun iv wr => ∃ p : Nat, iv = .int .i64 p ∧ i ≤ p ∧ p ≤ j ∧ w.alloc (.cells Z11 82) = wr) (fun iv _ => s.size - (intOf iv).toNat)
    case atStart => exact ⟨i, rfl, by omega, hij, rfl⟩
    case round =>
      obtain ⟨p, rfl, hp1, hp2, rfl⟩ := hrel
      by_cases hlt : p < j
      · obtain ⟨hps, hpb⟩ := HBL.out p hp1 hlt
        have C := Lib.hid (fun w => ref_blank (s[p]'hps) w)
        rw [hpb] at C
        clear hpb
        go_wp2_with fail
        (with_reducible refine (C.out _).mono ?_)
        rintro e1 w' ⟨rfl, rfl⟩
        go_wp2_with fail
        go_roundw
        case rel => exact ⟨p + 1, by go_num, by omega, by omega, by trivial⟩
        case measure =>
          simp [intOf]
          omega
      · have he : j = p := by omega
        subst he
        clear hlt hp2
        go_wp2_with fail
        (with_reducible refine (CB.out _).mono ?_)
        rintro e1 w' ⟨rfl, rfl⟩
        go_wp2_with fail
        (with_reducible refine (CS.out _).mono ?_)
        rintro e1 w' ⟨rfl, rfl⟩
        go_wp2_with fail
        (with_reducible refine (D0.out _).mono ?_)
        rintro e1 w' ⟨rfl, rfl⟩
        go_wp2_with fail
        (with_reducible refine (D1.out _).mono ?_)
        rintro e1 w' ⟨rfl, rfl⟩
        go_wp2_with fail
        refine bodyPost_ret (v := .agg (tkB j ((j : Int) + 1))) (by simp [results, Tryz.results38, go_sem]) rfl ⟨tokE_bad HX.out _, ?_⟩
        exact (Only.refl [] w).alloc _
end Go.Proofs.YtlilfmpikampgaaGreatDoor

namespace Go.Proofs.YtlilfmpikampgaaGreatDoor
open Go.RowKit

theorem at_any (s : ByteArray) (i : Nat) (w : World) (hs : s.size ≤ 262144) (hi : i ≤ s.size) :
    Calls Tryz.prog 38 #[.string s, .int .i64 i] w fun v w' => AtE s (nxt s i) v ∧ Only [] w w' := by
  have hij := nxt_ge s i
  have hjl := nxt_le s hi
  have HBL : Hid (∀ p, i ≤ p → p < nxt s i → ∃ hp : p < s.size, isBl (s[p]'hp) = true) := Lib.hid (fun p h1 h2 => nxt_blank h1 h2)
  by_cases hj : nxt s i < s.size
  · have hbl : isBl (s[nxt s i]'hj) = false := nxt_solid (lst_at hj)
    have fin : ∀ {v : Ending} {w' : World}, TokE s (nxt s i) v ∧ Only [] w w' → AtE s (nxt s i) v ∧ Only [] w w' := fun h => ⟨atE_of hj h.1, h.2⟩
    generalize nxt s i = j at *
    cases h0 : isSg (s[j]'hj) with
    | true =>
      have h0' : (s[j]'hj).toNat = 123 ∨ (s[j]'hj).toNat = 125 ∨ (s[j]'hj).toNat = 91 ∨ (s[j]'hj).toNat = 93 ∨ (s[j]'hj).toNat = 44 := by
        simp only [isSg, Bool.or_eq_true, decide_eq_true_eq] at h0
        omega
      rcases h0' with h | h | h | h | h
      · exact (at_sign123 s i j w hs hij HBL hj hbl h).mono fun _ _ h => fin h
      · exact (at_sign125 s i j w hs hij HBL hj hbl h).mono fun _ _ h => fin h
      · exact (at_sign91 s i j w hs hij HBL hj hbl h).mono fun _ _ h => fin h
      · exact (at_sign93 s i j w hs hij HBL hj hbl h).mono fun _ _ h => fin h
      · exact (at_sign44 s i j w hs hij HBL hj hbl h).mono fun _ _ h => fin h
    | false =>
      cases h1 : isSm (s[j]'hj) with
      | true => exact (at_word s i j w hs hij HBL hj hbl h1).mono fun _ _ h => fin h
      | false =>
        cases h2 : isDig (s[j]'hj) with
        | true => exact (at_digit s i j w hs hij HBL hj hbl h2).mono fun _ _ h => fin h
        | false =>
          by_cases h3 : (s[j]'hj).toNat = 45
          · exact (at_minus s i j w hs hij HBL hj hbl h3).mono fun _ _ h => fin h
          · by_cases h4 : (s[j]'hj).toNat = 35
            · exact (at_ref s i j w hs hij HBL hj hbl h4).mono fun _ _ h => fin h
            · by_cases h5 : (s[j]'hj).toNat = 60
              · exact (at_pid s i j w hs hij HBL hj hbl h5).mono fun _ _ h => fin h
              · exact (at_none s i j w hs hij HBL hj hbl h0 h1 h2 ⟨h3, h4, h5⟩).mono fun _ _ h => fin h
  · exact (at_end s i (nxt s i) w hs hij HBL (by omega)).mono fun v w' h => ⟨by unfold AtE; rw [if_neg hj]; exact h.1, h.2⟩
end Go.Proofs.YtlilfmpikampgaaGreatDoor
