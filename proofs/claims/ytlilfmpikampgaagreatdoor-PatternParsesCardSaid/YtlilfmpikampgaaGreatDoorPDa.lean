/- The document's At: words. -/
import Derived.Test.YtlilfmpikampgaaGreatDoorPD7
namespace Go.Proofs.YtlilfmpikampgaaGreatDoor
open Go.RowKit

set_option maxRecDepth 100000 in
set_option maxHeartbeats 8000000 in
theorem at_word (s : ByteArray) (i j : Nat) (w : World) (hs : s.size ≤ 262144) (hij : i ≤ j) (HBL : Hid (∀ p, i ≤ p → p < j → ∃ hp : p < s.size, isBl (s[p]'hp) = true)) (hj : j < s.size) (hbl : isBl (s[j]'hj) = false) (hb : isSm (s[j]'hj) = true) :
    Calls Tryz.prog 38 #[.string s, .int .i64 i] w fun v w' => TokE s j v ∧ Only [] w w' := by
  have rs := store_com
  have B1 := Lib.hid (Bk.made w 82 Z11)
  have O0 := Lib.hid ((Only.refl [] w).alloc (.cells Z11 82))
  have CB := Lib.hid (fun w => ref_blank (s[j]'hj) w)
  rw [hbl] at CB
  have hb2 : 97 ≤ (s[j]'hj).toNat ∧ (s[j]'hj).toNat ≤ 122 := by simpa [isSm] using hb
  have g123 : (((s[j]'hj).toNat : Int) == 123) = false := by rw [beq_eq_false_iff_ne]; omega
  have g125 : (((s[j]'hj).toNat : Int) == 125) = false := by rw [beq_eq_false_iff_ne]; omega
  have g91 : (((s[j]'hj).toNat : Int) == 91) = false := by rw [beq_eq_false_iff_ne]; omega
  have g93 : (((s[j]'hj).toNat : Int) == 93) = false := by rw [beq_eq_false_iff_ne]; omega
  have g44 : (((s[j]'hj).toNat : Int) == 44) = false := by rw [beq_eq_false_iff_ne]; omega
  have CS := Lib.hid (fun w => ref_small (s[j]'hj) w)
  rw [hb] at CS
  obtain ⟨K, hK⟩ : ∃ K, fin s j = K := ⟨_, rfl⟩
  have hfb := fin_bd hj
  rw [hK] at hfb
  have hK2 := hfb.2
  have hK1 : j + 1 ≤ K := hfb.1
  have hfs := fin_sm (lst_at hj) hb
  rw [hK] at hfs
  have HW : Hid (∀ k, j + 1 ≤ k → k < K → ∀ hk : k < s.size, isWd (s[k]'hk) = true) := Lib.hid (fun k h1 h2 hk => by
    refine runOf_all (l := (lst s).drop (j + 1)) (List.mem_iff_getElem?.2 ⟨k - (j + 1), ?_⟩)
    rw [List.getElem?_take, if_pos (by omega), List.getElem?_drop, show j + 1 + (k - (j + 1)) = k by omega, lst_at hk])
  have HN : Hid (∀ hk : K < s.size, isWd (s[K]'hk) = false) := Lib.hid (fun hk => by
    refine runOf_stop (l := (lst s).drop (j + 1)) ?_
    rw [List.getElem?_drop, ← hfs, lst_at hk])
  have M := Lib.hid (fun w => (word_any s j K w hs (by omega) hK2).mono fun v w' h => (⟨tokE_of (by rw [← hK]; exact tk_word (lst_at hj) hb) h.1 (by rw [hK]), h.2⟩ : TokE s j v ∧ Only [] w w'))
  clear hb2 hb hbl hK hfb hfs
  go_enter Tryz.func38, Tryz.ntmps38
  go_wp2_with fail
  go_loopw [1] (fun iv wr => ∃ p : Nat, iv = .int .i64 p ∧ i ≤ p ∧ p ≤ j ∧ w.alloc (.cells Z11 82) = wr) (fun iv _ => s.size - (intOf iv).toNat)
  case atStart => exact ⟨i, rfl, by omega, hij, rfl⟩
  case round =>
    obtain ⟨p, rfl, hp1, hp2, rfl⟩ := hrel
    by_cases hlt : p < j
    · obtain ⟨hps, hpb⟩ := HBL.out p hp1 hlt
      have C := Lib.hid (fun w => ref_blank (s[p]'hps) w)
      rw [hpb] at C
      clear hpb
      go_wp2_with fail
      (with_reducible refine (C.out _).mono ?_)
      rintro e1 w' ⟨rfl, rfl⟩
      go_wp2_with fail
      go_roundw
      case rel => exact ⟨p + 1, by go_num, by omega, by omega, by trivial⟩
      case measure =>
        simp [intOf]
        omega
    · have he : j = p := by omega
      subst he
      clear hlt hp2
      go_wp2_with fail
      (with_reducible refine (CB.out _).mono ?_)
      rintro e1 w' ⟨rfl, rfl⟩
      go_wp2_with fail
      (with_reducible refine (CS.out _).mono ?_)
      rintro e1 w' ⟨rfl, rfl⟩
      go_wp2_with fail
      go_loopw [6] (fun kv wr => ∃ k : Nat, kv = .int .i64 k ∧ j + 1 ≤ k ∧ k ≤ K ∧ w.alloc (.cells Z11 82) = wr) (fun kv _ => s.size - (intOf kv).toNat)
      case atStart => exact ⟨j + 1, by go_num, by omega, hK1, rfl⟩
      case round =>
        obtain ⟨k, rfl, hk1, hk2, rfl⟩ := hrel
        by_cases hlt : k < K
        · have hks : k < s.size := by omega
          have hw := (wd_of _).1 (HW.out k hk1 hlt hks)
          have CL := Lib.hid (fun w => ref_letter (s[k]'hks) w)
          cases hl : (isSm (s[k]'hks) || isCap (s[k]'hks)) with
          | true =>
            rw [hl] at CL
            clear hw hl
            go_wp2_with fail
            (with_reducible refine (CL.out _).mono ?_)
            rintro e1 w' ⟨rfl, rfl⟩
            go_wp2_with fail
            go_roundw
            case rel => exact ⟨k + 1, by go_num, by omega, by omega, by trivial⟩
            case measure =>
              simp [intOf]
              omega
          | false =>
            have hl2 : ¬ (97 ≤ (s[k]'hks).toNat ∧ (s[k]'hks).toNat ≤ 122) ∧ ¬ (65 ≤ (s[k]'hks).toNat ∧ (s[k]'hks).toNat ≤ 90) := by
              simp only [isSm, isCap, Bool.or_eq_false_iff, Bool.and_eq_false_iff, decide_eq_false_iff_not] at hl
              omega
            rw [hl] at CL
            clear hl
            by_cases h95 : (s[k]'hks).toNat = 95
            · have q1 : (48 : Int) ≤ ((s[k]'hks).toNat : Int) := by omega
              have q2 : ¬ (((s[k]'hks).toNat : Int) ≤ 57) := by omega
              have q3 : (((s[k]'hks).toNat : Int) == 95) = true := by rw [beq_iff_eq]; omega
              clear hw hl2 h95
              go_wp2_with fail
              (with_reducible refine (CL.out _).mono ?_)
              rintro e1 w' ⟨rfl, rfl⟩
              go_wp2_with fail
              go_roundw
              case rel => exact ⟨k + 1, by go_num, by omega, by omega, by trivial⟩
              case measure =>
                simp [intOf]
                omega
            · have q1 : (48 : Int) ≤ ((s[k]'hks).toNat : Int) := by omega
              have q2 : (((s[k]'hks).toNat : Int) ≤ 57) := by omega
              clear hw hl2 h95
              go_wp2_with fail
              (with_reducible refine (CL.out _).mono ?_)
              rintro e1 w' ⟨rfl, rfl⟩
              go_wp2_with fail
              go_roundw
              case rel => exact ⟨k + 1, by go_num, by omega, by omega, by trivial⟩
              case measure =>
                simp [intOf]
                omega
        · have he : K = k := by omega
          subst he
          clear hlt hk2
          by_cases hks : K < s.size
          · have hw : ¬ _ := fun h => absurd ((wd_of _).2 h) (by rw [HN.out hks]; simp)
            have CL := Lib.hid (fun w => ref_letter (s[K]'hks) w)
            have hl : (isSm (s[K]'hks) || isCap (s[K]'hks)) = false := by
              simp only [isSm, isCap, Bool.or_eq_false_iff, Bool.and_eq_false_iff, decide_eq_false_iff_not]
              omega
            rw [hl] at CL
            have q3 : (((s[K]'hks).toNat : Int) == 95) = false := by rw [beq_eq_false_iff_ne]; omega
            clear hl
            by_cases q1 : (48 : Int) ≤ ((s[K]'hks).toNat : Int)
            · have q2 : ¬ (((s[K]'hks).toNat : Int) ≤ 57) := by omega
              clear hw
              go_wp2_with fail
              (with_reducible refine (CL.out _).mono ?_)
              rintro e1 w' ⟨rfl, rfl⟩
              go_wp2_with fail
              (with_reducible refine (M.out _).mono ?_)
              rintro e1 w1 ⟨ht, o1⟩
              have HT := Lib.hid ht
              obtain ⟨kd, sg', k', n', x, y, S, a, b, e', rfl⟩ := tokE_cells ht
              obtain ⟨z0, z1, z2, z3, z4, z5, z6, z7, z8, z9, z10⟩ := (B1.out.only o1 (by simp)).eleven
              have zf := (B1.out.only o1 (by simp)).free
              have O1 := Lib.hid (O0.out.trans o1 (by simp))
              clear o1 ht
              go_wp2_with fail
              refine bodyPost_ret (v := .agg (tks kd sg' k' n' x y S a b (.slice none 0 0) j e')) (by simp [results, Tryz.results38, go_sem, z0, z1, z2, z3, z4, z5, z6, z7, z8, z9, z10]) rfl ⟨HT.out, ?_⟩
              exact O1.out.set11 (by omega)
            · clear hw
              go_wp2_with fail
              (with_reducible refine (CL.out _).mono ?_)
              rintro e1 w' ⟨rfl, rfl⟩
              go_wp2_with fail
              (with_reducible refine (M.out _).mono ?_)
              rintro e1 w1 ⟨ht, o1⟩
              have HT := Lib.hid ht
              obtain ⟨kd, sg', k', n', x, y, S, a, b, e', rfl⟩ := tokE_cells ht
              obtain ⟨z0, z1, z2, z3, z4, z5, z6, z7, z8, z9, z10⟩ := (B1.out.only o1 (by simp)).eleven
              have zf := (B1.out.only o1 (by simp)).free
              have O1 := Lib.hid (O0.out.trans o1 (by simp))
              clear o1 ht
              go_wp2_with fail
              refine bodyPost_ret (v := .agg (tks kd sg' k' n' x y S a b (.slice none 0 0) j e')) (by simp [results, Tryz.results38, go_sem, z0, z1, z2, z3, z4, z5, z6, z7, z8, z9, z10]) rfl ⟨HT.out, ?_⟩
              exact O1.out.set11 (by omega)
          · go_wp2_with fail
            (with_reducible refine (M.out _).mono ?_)
            rintro e1 w1 ⟨ht, o1⟩
            have HT := Lib.hid ht
            obtain ⟨kd, sg', k', n', x, y, S, a, b, e', rfl⟩ := tokE_cells ht
            obtain ⟨z0, z1, z2, z3, z4, z5, z6, z7, z8, z9, z10⟩ := (B1.out.only o1 (by simp)).eleven
            have zf := (B1.out.only o1 (by simp)).free
            have O1 := Lib.hid (O0.out.trans o1 (by simp))
            clear o1 ht
            go_wp2_with fail
            refine bodyPost_ret (v := .agg (tks kd sg' k' n' x y S a b (.slice none 0 0) j e')) (by simp [results, Tryz.results38, go_sem, z0, z1, z2, z3, z4, z5, z6, z7, z8, z9, z10]) rfl ⟨HT.out, ?_⟩
            exact O1.out.set11 (by omega)
end Go.Proofs.YtlilfmpikampgaaGreatDoor
