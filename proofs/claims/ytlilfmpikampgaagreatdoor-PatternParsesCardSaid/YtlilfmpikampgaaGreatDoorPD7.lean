/- The document's At: the token that comes from a place on. -/
import Derived.Test.YtlilfmpikampgaaGreatDoorPD5
namespace Go.Proofs.YtlilfmpikampgaaGreatDoor
open Go.RowKit

def TokE (s : ByteArray) (j : Nat) (v : Ending) : Prop :=
  match tkAt s j with
  | .sign b => v = .returned (.agg (tks 1 b.toNat 0 0 0 0 ⟨#[]⟩ 0 0 (.slice none 0 0) j ((j : Int) + 1)))
  | .term t => v = .returned (.agg (tkT t j (fin s j)))
  | .bad => ∃ e', v = .returned (.agg (tkB j e'))
def AtE (s : ByteArray) (j : Nat) (v : Ending) : Prop :=
  if j < s.size then TokE s j v else v = .returned (.agg (tks 0 0 0 0 0 0 ⟨#[]⟩ 0 0 (.slice none 0 0) s.size s.size))
theorem tokE_of {s : ByteArray} {j : Nat} {o : Option T} {f : Int} {v : Ending} (h : tkAt s j = tkO o) (h1 : Tkn o j f v) (h2 : f = (fin s j : Int)) : TokE s j v := by
  unfold TokE
  rw [h]
  cases o with
  | none => exact h1
  | some t => rw [← h2]; exact h1
theorem tokE_bad {s : ByteArray} {j : Nat} (h : tkAt s j = .bad) (e' : Int) : TokE s j (.returned (.agg (tkB j e'))) := by
  unfold TokE
  rw [h]
  exact ⟨e', rfl⟩
theorem atE_of {s : ByteArray} {j : Nat} (hj : j < s.size) {v : Ending} (h : TokE s j v) : AtE s j v := by unfold AtE; rw [if_pos hj]; exact h
theorem tokE_cells {s : ByteArray} {j : Nat} {v : Ending} (h : TokE s j v) : ∃ (kd sg k n : Int) (x y : Nat) (S : ByteArray) (a b e' : Int), v = .returned (.agg (tks kd sg k n x y S a b (.slice none 0 0) j e')) := by
  unfold TokE at h
  split at h
  · exact ⟨_, _, _, _, _, _, _, _, _, _, h⟩
  · exact ⟨_, _, _, _, _, _, _, _, _, _, h⟩
  · obtain ⟨e', rfl⟩ := h
    exact ⟨_, _, _, _, _, _, _, _, _, _, rfl⟩
theorem nxt_blank {s : ByteArray} {i p : Nat} (h1 : i ≤ p) (h2 : p < nxt s i) : ∃ hp : p < s.size, isBl (s[p]'hp) = true := by
  have hl := runOf_le isBl ((lst s).drop i)
  rw [List.length_drop, lst_len] at hl
  unfold nxt at h2
  have hp : p < s.size := by omega
  refine ⟨hp, ?_⟩
  have h : ((lst s).drop i)[p - i]? = some (s[p]'hp) := by rw [List.getElem?_drop, show i + (p - i) = p by omega, lst_at hp]
  refine runOf_all (l := (lst s).drop i) (List.mem_iff_getElem?.2 ⟨p - i, ?_⟩)
  rw [List.getElem?_take, if_pos (by omega), h]
theorem rof_no {s : ByteArray} {j : Nat} {p : UInt8 → Bool} (hj : j < s.size) (h : p (s[j]'hj) = false) : runOf p ((lst s).drop j) = 0 := by
  rw [drop_at (lst_at hj), runOf_no _ h]
theorem rof_yes {s : ByteArray} {j : Nat} {p : UInt8 → Bool} (hj : j < s.size) (h : p (s[j]'hj) = true) : runOf p ((lst s).drop j) = runOf p ((lst s).drop (j + 1)) + 1 := by
  rw [drop_at (lst_at hj), runOf_yes _ h]
/-- A number's token. -/
theorem number_tok (s : ByteArray) (j e : Nat) (w : World) (hs : s.size ≤ 262144) (hj : j < s.size) (hb : isDig (s[j]'hj) = true ∨ (s[j]'hj).toNat = 45) (he : j + 1 + runOf isDig ((lst s).drop (j + 1)) = e) (hn : ¬ ((s[j]'hj).toNat = 45 ∧ e = j + 1)) :
    Calls Tryz.prog 56 #[.string s, .int .i64 j, .int .i64 e] w fun v w' => TokE s j v ∧ Only [] w w' := by
  obtain ⟨k, hk⟩ : ∃ k, runOf isDig ((lst s).drop (j + 1)) = k := ⟨_, rfl⟩
  rw [hk] at he
  have hle := runOf_le isDig ((lst s).drop (j + 1))
  rw [List.length_drop, lst_len, hk] at hle
  have hn' : ¬ ((s[j]'hj).toNat = 45 ∧ k = 0) := fun h => hn ⟨h.1, by omega⟩
  obtain ⟨d, hd⟩ : ∃ d, runOf isDig ((lst s).drop (e + 1)) = d := ⟨_, rfl⟩
  by_cases hc : ∃ sg, (lst s)[e]? = some sg ∧ isPM sg = true ∧ d ≠ 0 ∧ (lst s)[e + 1 + d]? = some 105
  · obtain ⟨sg, h1, h2, h3, h4⟩ := hc
    have hel := (List.getElem?_eq_some_iff.1 h1).1
    rw [lst_len] at hel
    have hql := (List.getElem?_eq_some_iff.1 h4).1
    rw [lst_len] at hql
    have e1 : s[e]'hel = sg := by have := lst_at hel; rw [h1] at this; injection this with this; exact this.symm
    have e2 : (s[e + 1 + d]'hql).toNat = 105 := by have := lst_at hql; rw [h4] at this; injection this with this; rw [← this]; rfl
    subst he
    obtain ⟨hf, ht⟩ := tk_com (lst_at hj) hb hk hn' h1 h2 hd h3 h4
    have h2' : sg.toNat = 43 ∨ sg.toNat = 45 := by simpa [isPM] using h2
    rcases h2' with h5 | h5
    · rw [if_pos h5] at ht
      exact (number_com43 s j (j + 1 + k) (j + 1 + k + 1 + d) w hs (by omega) hel (by rw [e1]; exact h5) (by rw [hd]) (by omega) hql e2).mono fun v w' ⟨h6, h7⟩ => ⟨tokE_of ht h6 (by rw [hf]; omega), h7⟩
    · rw [if_neg (by omega)] at ht
      exact (number_com45 s j (j + 1 + k) (j + 1 + k + 1 + d) w hs (by omega) hel (by rw [e1]; exact h5) (by rw [hd]) (by omega) hql e2).mono fun v w' ⟨h6, h7⟩ => ⟨tokE_of ht h6 (by rw [hf]; omega), h7⟩
  · subst he
    have ho : otherW ((lst s).drop (j + 1 + k)) = 0 := by
      by_cases h : otherW ((lst s).drop (j + 1 + k)) = 0
      · exact h
      · obtain ⟨sg, h1, h2, h3, h4, _⟩ := other_parts h
        rw [List.drop_drop] at h3 h4
        rw [List.getElem?_drop] at h1 h4
        refine absurd ⟨sg, by simpa using h1, h2, by rw [← hd]; exact h3, ?_⟩ hc
        rw [hd, ← Nat.add_assoc] at h4
        exact h4
    obtain ⟨hf, ht⟩ := tk_int (lst_at hj) hb hk hn' ho
    exact (number_int s j (j + 1 + k) d w hs (by omega) (by omega) (fun _ => hd) hc).mono fun v w' ⟨h6, h7⟩ => ⟨tokE_of ht h6 (by rw [hf]), h7⟩
set_option maxRecDepth 100000 in
set_option maxHeartbeats 4000000 in
theorem at_end (s : ByteArray) (i j : Nat) (w : World) (hs : s.size ≤ 262144) (hij : i ≤ j) (HBL : Hid (∀ p, i ≤ p → p < j → ∃ hp : p < s.size, isBl (s[p]'hp) = true)) (hj : j = s.size) :
    Calls Tryz.prog 38 #[.string s, .int .i64 i] w fun v w' => v = .returned (.agg (tks 0 0 0 0 0 0 ⟨#[]⟩ 0 0 (.slice none 0 0) s.size s.size)) ∧ Only [] w w' := by
  have rs := store_com
  have B1 := Lib.hid (Bk.made w 82 Z11)
  have O0 := Lib.hid ((Only.refl [] w).alloc (.cells Z11 82))
  go_enter Tryz.func38, Tryz.ntmps38
  go_wp2_with fail
  go_loopw [1] (fun iv wr => ∃ p : Nat, iv = .int .i64 p ∧ i ≤ p ∧ p ≤ j ∧ w.alloc (.cells Z11 82) = wr) (fun iv _ => s.size - (intOf iv).toNat)
  case atStart => exact ⟨i, rfl, by omega, hij, rfl⟩
  case round =>
    obtain ⟨p, rfl, hp1, hp2, rfl⟩ := hrel
    by_cases hlt : p < j
    · obtain ⟨hps, hpb⟩ := HBL.out p hp1 hlt
      have C := Lib.hid (fun w => ref_blank (s[p]'hps) w)
      rw [hpb] at C
      clear hpb
      go_wp2_with fail
      (with_reducible refine (C.out _).mono ?_)
      rintro e1 w' ⟨rfl, rfl⟩
      go_wp2_with fail
      go_roundw
      case rel => exact ⟨p + 1, by go_num, by omega, by omega, by trivial⟩
      case measure =>
        simp [intOf]
        omega
    · have he : j = p := by omega
      subst he
      clear hlt hp2
      go_wp2_with fail
      refine bodyPost_ret (v := .agg (tks 0 0 0 0 0 0 ⟨#[]⟩ 0 0 (.slice none 0 0) s.size s.size)) (by simp [results, Tryz.results38, go_sem]) rfl ⟨rfl, ?_⟩
      exact (Only.refl [] w).alloc _
set_option maxRecDepth 100000 in
set_option maxHeartbeats 4000000 in
theorem at_sign123 (s : ByteArray) (i j : Nat) (w : World) (hs : s.size ≤ 262144) (hij : i ≤ j) (HBL : Hid (∀ p, i ≤ p → p < j → ∃ hp : p < s.size, isBl (s[p]'hp) = true)) (hj : j < s.size) (hbl : isBl (s[j]'hj) = false) (hb : (s[j]'hj).toNat = 123) :
    Calls Tryz.prog 38 #[.string s, .int .i64 i] w fun v w' => TokE s j v ∧ Only [] w w' := by
  have rs := store_com
  have B1 := Lib.hid (Bk.made w 82 Z11)
  have O0 := Lib.hid ((Only.refl [] w).alloc (.cells Z11 82))
  have CB := Lib.hid (fun w => ref_blank (s[j]'hj) w)
  rw [hbl] at CB
  have g123 : (((s[j]'hj).toNat : Int) == 123) = true := by rw [beq_iff_eq]; omega
  have g125 : (((s[j]'hj).toNat : Int) == 125) = false := by rw [beq_eq_false_iff_ne]; omega
  have g91 : (((s[j]'hj).toNat : Int) == 91) = false := by rw [beq_eq_false_iff_ne]; omega
  have g93 : (((s[j]'hj).toNat : Int) == 93) = false := by rw [beq_eq_false_iff_ne]; omega
  have g44 : (((s[j]'hj).toNat : Int) == 44) = false := by rw [beq_eq_false_iff_ne]; omega
  have HX : Hid (TokE s j (.returned (.agg (tks 1 (s[j]'hj).toNat 0 0 0 0 ⟨#[]⟩ 0 0 (.slice none 0 0) j ((j : Int) + 1))))) := Lib.hid (by
    unfold TokE
    rw [tk_sgn (lst_at hj) (by simp [isSg]; omega)])
  clear hbl hb
  go_enter Tryz.func38, Tryz.ntmps38
  go_wp2_with fail
  go_loopw [1] (fun iv wr => ∃ p : Nat, iv = .int .i64 p ∧ i ≤ p ∧ p ≤ j ∧ w.alloc (.cells Z11 82) = wr) (fun iv _ => s.size - (intOf iv).toNat)
  case atStart => exact ⟨i, rfl, by omega, hij, rfl⟩
  case round =>
    obtain ⟨p, rfl, hp1, hp2, rfl⟩ := hrel
    by_cases hlt : p < j
    · obtain ⟨hps, hpb⟩ := HBL.out p hp1 hlt
      have C := Lib.hid (fun w => ref_blank (s[p]'hps) w)
      rw [hpb] at C
      clear hpb
      go_wp2_with fail
      (with_reducible refine (C.out _).mono ?_)
      rintro e1 w' ⟨rfl, rfl⟩
      go_wp2_with fail
      go_roundw
      case rel => exact ⟨p + 1, by go_num, by omega, by omega, by trivial⟩
      case measure =>
        simp [intOf]
        omega
    · have he : j = p := by omega
      subst he
      clear hlt hp2
      go_wp2_with fail
      (with_reducible refine (CB.out _).mono ?_)
      rintro e1 w' ⟨rfl, rfl⟩
      go_wp2_with fail
      refine bodyPost_ret (v := .agg (tks 1 (s[j]'hj).toNat 0 0 0 0 ⟨#[]⟩ 0 0 (.slice none 0 0) j ((j : Int) + 1))) (by simp [results, Tryz.results38, go_sem]) rfl ⟨HX.out, ?_⟩
      exact (Only.refl [] w).alloc _
set_option maxRecDepth 100000 in
set_option maxHeartbeats 4000000 in
theorem at_sign125 (s : ByteArray) (i j : Nat) (w : World) (hs : s.size ≤ 262144) (hij : i ≤ j) (HBL : Hid (∀ p, i ≤ p → p < j → ∃ hp : p < s.size, isBl (s[p]'hp) = true)) (hj : j < s.size) (hbl : isBl (s[j]'hj) = false) (hb : (s[j]'hj).toNat = 125) :
    Calls Tryz.prog 38 #[.string s, .int .i64 i] w fun v w' => TokE s j v ∧ Only [] w w' := by
  have rs := store_com
  have B1 := Lib.hid (Bk.made w 82 Z11)
  have O0 := Lib.hid ((Only.refl [] w).alloc (.cells Z11 82))
  have CB := Lib.hid (fun w => ref_blank (s[j]'hj) w)
  rw [hbl] at CB
  have g123 : (((s[j]'hj).toNat : Int) == 123) = false := by rw [beq_eq_false_iff_ne]; omega
  have g125 : (((s[j]'hj).toNat : Int) == 125) = true := by rw [beq_iff_eq]; omega
  have g91 : (((s[j]'hj).toNat : Int) == 91) = false := by rw [beq_eq_false_iff_ne]; omega
  have g93 : (((s[j]'hj).toNat : Int) == 93) = false := by rw [beq_eq_false_iff_ne]; omega
  have g44 : (((s[j]'hj).toNat : Int) == 44) = false := by rw [beq_eq_false_iff_ne]; omega
  have HX : Hid (TokE s j (.returned (.agg (tks 1 (s[j]'hj).toNat 0 0 0 0 ⟨#[]⟩ 0 0 (.slice none 0 0) j ((j : Int) + 1))))) := Lib.hid (by
    unfold TokE
    rw [tk_sgn (lst_at hj) (by simp [isSg]; omega)])
  clear hbl hb
  go_enter Tryz.func38, Tryz.ntmps38
  go_wp2_with fail
  go_loopw [1] (fun iv wr => ∃ p : Nat, iv = .int .i64 p ∧ i ≤ p ∧ p ≤ j ∧ w.alloc (.cells Z11 82) = wr) (fun iv _ => s.size - (intOf iv).toNat)
  case atStart => exact ⟨i, rfl, by omega, hij, rfl⟩
  case round =>
    obtain ⟨p, rfl, hp1, hp2, rfl⟩ := hrel
    by_cases hlt : p < j
    · obtain ⟨hps, hpb⟩ := HBL.out p hp1 hlt
      have C := Lib.hid (fun w => ref_blank (s[p]'hps) w)
      rw [hpb] at C
      clear hpb
      go_wp2_with fail
      (with_reducible refine (C.out _).mono ?_)
      rintro e1 w' ⟨rfl, rfl⟩
      go_wp2_with fail
      go_roundw
      case rel => exact ⟨p + 1, by go_num, by omega, by omega, by trivial⟩
      case measure =>
        simp [intOf]
        omega
    · have he : j = p := by omega
      subst he
      clear hlt hp2
      go_wp2_with fail
      (with_reducible refine (CB.out _).mono ?_)
      rintro e1 w' ⟨rfl, rfl⟩
      go_wp2_with fail
      refine bodyPost_ret (v := .agg (tks 1 (s[j]'hj).toNat 0 0 0 0 ⟨#[]⟩ 0 0 (.slice none 0 0) j ((j : Int) + 1))) (by simp [results, Tryz.results38, go_sem]) rfl ⟨HX.out, ?_⟩
      exact (Only.refl [] w).alloc _
set_option maxRecDepth 100000 in
set_option maxHeartbeats 4000000 in
theorem at_sign91 (s : ByteArray) (i j : Nat) (w : World) (hs : s.size ≤ 262144) (hij : i ≤ j) (HBL : Hid (∀ p, i ≤ p → p < j → ∃ hp : p < s.size, isBl (s[p]'hp) = true)) (hj : j < s.size) (hbl : isBl (s[j]'hj) = false) (hb : (s[j]'hj).toNat = 91) :
    Calls Tryz.prog 38 #[.string s, .int .i64 i] w fun v w' => TokE s j v ∧ Only [] w w' := by
  have rs := store_com
  have B1 := Lib.hid (Bk.made w 82 Z11)
  have O0 := Lib.hid ((Only.refl [] w).alloc (.cells Z11 82))
  have CB := Lib.hid (fun w => ref_blank (s[j]'hj) w)
  rw [hbl] at CB
  have g123 : (((s[j]'hj).toNat : Int) == 123) = false := by rw [beq_eq_false_iff_ne]; omega
  have g125 : (((s[j]'hj).toNat : Int) == 125) = false := by rw [beq_eq_false_iff_ne]; omega
  have g91 : (((s[j]'hj).toNat : Int) == 91) = true := by rw [beq_iff_eq]; omega
  have g93 : (((s[j]'hj).toNat : Int) == 93) = false := by rw [beq_eq_false_iff_ne]; omega
  have g44 : (((s[j]'hj).toNat : Int) == 44) = false := by rw [beq_eq_false_iff_ne]; omega
  have HX : Hid (TokE s j (.returned (.agg (tks 1 (s[j]'hj).toNat 0 0 0 0 ⟨#[]⟩ 0 0 (.slice none 0 0) j ((j : Int) + 1))))) := Lib.hid (by
    unfold TokE
    rw [tk_sgn (lst_at hj) (by simp [isSg]; omega)])
  clear hbl hb
  go_enter Tryz.func38, Tryz.ntmps38
  go_wp2_with fail
  go_loopw [1] (fun iv wr => ∃ p : Nat, iv = .int .i64 p ∧ i ≤ p ∧ p ≤ j ∧ w.alloc (.cells Z11 82) = wr) (fun iv _ => s.size - (intOf iv).toNat)
  case atStart => exact ⟨i, rfl, by omega, hij, rfl⟩
  case round =>
    obtain ⟨p, rfl, hp1, hp2, rfl⟩ := hrel
    by_cases hlt : p < j
    · obtain ⟨hps, hpb⟩ := HBL.out p hp1 hlt
      have C := Lib.hid (fun w => ref_blank (s[p]'hps) w)
      rw [hpb] at C
      clear hpb
      go_wp2_with fail
      (with_reducible refine (C.out _).mono ?_)
      rintro e1 w' ⟨rfl, rfl⟩
      go_wp2_with fail
      go_roundw
      case rel => exact ⟨p + 1, by go_num, by omega, by omega, by trivial⟩
      case measure =>
        simp [intOf]
        omega
    · have he : j = p := by omega
      subst he
      clear hlt hp2
      go_wp2_with fail
      (with_reducible refine (CB.out _).mono ?_)
      rintro e1 w' ⟨rfl, rfl⟩
      go_wp2_with fail
      refine bodyPost_ret (v := .agg (tks 1 (s[j]'hj).toNat 0 0 0 0 ⟨#[]⟩ 0 0 (.slice none 0 0) j ((j : Int) + 1))) (by simp [results, Tryz.results38, go_sem]) rfl ⟨HX.out, ?_⟩
      exact (Only.refl [] w).alloc _
set_option maxRecDepth 100000 in
set_option maxHeartbeats 4000000 in
theorem at_sign93 (s : ByteArray) (i j : Nat) (w : World) (hs : s.size ≤ 262144) (hij : i ≤ j) (HBL : Hid (∀ p, i ≤ p → p < j → ∃ hp : p < s.size, isBl (s[p]'hp) = true)) (hj : j < s.size) (hbl : isBl (s[j]'hj) = false) (hb : (s[j]'hj).toNat = 93) :
    Calls Tryz.prog 38 #[.string s, .int .i64 i] w fun v w' => TokE s j v ∧ Only [] w w' := by
  have rs := store_com
  have B1 := Lib.hid (Bk.made w 82 Z11)
  have O0 := Lib.hid ((Only.refl [] w).alloc (.cells Z11 82))
  have CB := Lib.hid (fun w => ref_blank (s[j]'hj) w)
  rw [hbl] at CB
  have g123 : (((s[j]'hj).toNat : Int) == 123) = false := by rw [beq_eq_false_iff_ne]; omega
  have g125 : (((s[j]'hj).toNat : Int) == 125) = false := by rw [beq_eq_false_iff_ne]; omega
  have g91 : (((s[j]'hj).toNat : Int) == 91) = false := by rw [beq_eq_false_iff_ne]; omega
  have g93 : (((s[j]'hj).toNat : Int) == 93) = true := by rw [beq_iff_eq]; omega
  have g44 : (((s[j]'hj).toNat : Int) == 44) = false := by rw [beq_eq_false_iff_ne]; omega
  have HX : Hid (TokE s j (.returned (.agg (tks 1 (s[j]'hj).toNat 0 0 0 0 ⟨#[]⟩ 0 0 (.slice none 0 0) j ((j : Int) + 1))))) := Lib.hid (by
    unfold TokE
    rw [tk_sgn (lst_at hj) (by simp [isSg]; omega)])
  clear hbl hb
  go_enter Tryz.func38, Tryz.ntmps38
  go_wp2_with fail
  go_loopw [1] (fun iv wr => ∃ p : Nat, iv = .int .i64 p ∧ i ≤ p ∧ p ≤ j ∧ w.alloc (.cells Z11 82) = wr) (fun iv _ => s.size - (intOf iv).toNat)
  case atStart => exact ⟨i, rfl, by omega, hij, rfl⟩
  case round =>
    obtain ⟨p, rfl, hp1, hp2, rfl⟩ := hrel
    by_cases hlt : p < j
    · obtain ⟨hps, hpb⟩ := HBL.out p hp1 hlt
      have C := Lib.hid (fun w => ref_blank (s[p]'hps) w)
      rw [hpb] at C
      clear hpb
      go_wp2_with fail
      (with_reducible refine (C.out _).mono ?_)
      rintro e1 w' ⟨rfl, rfl⟩
      go_wp2_with fail
      go_roundw
      case rel => exact ⟨p + 1, by go_num, by omega, by omega, by trivial⟩
      case measure =>
        simp [intOf]
        omega
    · have he : j = p := by omega
      subst he
      clear hlt hp2
      go_wp2_with fail
      (with_reducible refine (CB.out _).mono ?_)
      rintro e1 w' ⟨rfl, rfl⟩
      go_wp2_with fail
      refine bodyPost_ret (v := .agg (tks 1 (s[j]'hj).toNat 0 0 0 0 ⟨#[]⟩ 0 0 (.slice none 0 0) j ((j : Int) + 1))) (by simp [results, Tryz.results38, go_sem]) rfl ⟨HX.out, ?_⟩
      exact (Only.refl [] w).alloc _
set_option maxRecDepth 100000 in
set_option maxHeartbeats 4000000 in
theorem at_sign44 (s : ByteArray) (i j : Nat) (w : World) (hs : s.size ≤ 262144) (hij : i ≤ j) (HBL : Hid (∀ p, i ≤ p → p < j → ∃ hp : p < s.size, isBl (s[p]'hp) = true)) (hj : j < s.size) (hbl : isBl (s[j]'hj) = false) (hb : (s[j]'hj).toNat = 44) :
    Calls Tryz.prog 38 #[.string s, .int .i64 i] w fun v w' => TokE s j v ∧ Only [] w w' := by
  have rs := store_com
  have B1 := Lib.hid (Bk.made w 82 Z11)
  have O0 := Lib.hid ((Only.refl [] w).alloc (.cells Z11 82))
  have CB := Lib.hid (fun w => ref_blank (s[j]'hj) w)
  rw [hbl] at CB
  have g123 : (((s[j]'hj).toNat : Int) == 123) = false := by rw [beq_eq_false_iff_ne]; omega
  have g125 : (((s[j]'hj).toNat : Int) == 125) = false := by rw [beq_eq_false_iff_ne]; omega
  have g91 : (((s[j]'hj).toNat : Int) == 91) = false := by rw [beq_eq_false_iff_ne]; omega
  have g93 : (((s[j]'hj).toNat : Int) == 93) = false := by rw [beq_eq_false_iff_ne]; omega
  have g44 : (((s[j]'hj).toNat : Int) == 44) = true := by rw [beq_iff_eq]; omega
  have HX : Hid (TokE s j (.returned (.agg (tks 1 (s[j]'hj).toNat 0 0 0 0 ⟨#[]⟩ 0 0 (.slice none 0 0) j ((j : Int) + 1))))) := Lib.hid (by
    unfold TokE
    rw [tk_sgn (lst_at hj) (by simp [isSg]; omega)])
  clear hbl hb
  go_enter Tryz.func38, Tryz.ntmps38
  go_wp2_with fail
  go_loopw [1] (fun iv wr => ∃ p : Nat, iv = .int .i64 p ∧ i ≤ p ∧ p ≤ j ∧ w.alloc (.cells Z11 82) = wr) (fun iv _ => s.size - (intOf iv).toNat)
  case atStart => exact ⟨i, rfl, by omega, hij, rfl⟩
  case round =>
    obtain ⟨p, rfl, hp1, hp2, rfl⟩ := hrel
    by_cases hlt : p < j
    · obtain ⟨hps, hpb⟩ := HBL.out p hp1 hlt
      have C := Lib.hid (fun w => ref_blank (s[p]'hps) w)
      rw [hpb] at C
      clear hpb
      go_wp2_with fail
      (with_reducible refine (C.out _).mono ?_)
      rintro e1 w' ⟨rfl, rfl⟩
      go_wp2_with fail
      go_roundw
      case rel => exact ⟨p + 1, by go_num, by omega, by omega, by trivial⟩
      case measure =>
        simp [intOf]
        omega
    · have he : j = p := by omega
      subst he
      clear hlt hp2
      go_wp2_with fail
      (with_reducible refine (CB.out _).mono ?_)
      rintro e1 w' ⟨rfl, rfl⟩
      go_wp2_with fail
      refine bodyPost_ret (v := .agg (tks 1 (s[j]'hj).toNat 0 0 0 0 ⟨#[]⟩ 0 0 (.slice none 0 0) j ((j : Int) + 1))) (by simp [results, Tryz.results38, go_sem]) rfl ⟨HX.out, ?_⟩
      exact (Only.refl [] w).alloc _
end Go.Proofs.YtlilfmpikampgaaGreatDoor
