/- The document's own: the tokens of kinds; its tokenAt. -/
import Derived.Test.YtlilfmpikampgaaGreatDoorPKf
namespace Go.Proofs.YtlilfmpikampgaaGreatDoor
open Go.RowKit

theorem kind_first {s : ByteArray} {j : Nat} (h : ∀ hj : j + 1 < s.size, (isSm (s[j + 1]'hj) || isCap (s[j + 1]'hj)) = false) : kindP (tailB isWd s j) = none := by
  cases hk : kindP (tailB isWd s j) with
  | none => rfl
  | some n =>
    have hs := kindP_small hk
    cases hl : tailB isWd s j with
    | nil => rw [hl] at hk; cases hk
    | cons b l =>
      have h1 := hs b (by rw [hl]; simp)
      have h2 : (lst s)[j + 1]? = some b := by
        have h3 : (tailB isWd s j)[0]? = some b := by rw [hl]; rfl
        unfold tailB at h3
        rw [List.getElem?_take] at h3
        split at h3
        · rw [List.getElem?_drop] at h3; exact h3
        · cases h3
      have h4 := (List.getElem?_eq_some_iff.1 h2).1
      rw [lst_len] at h4
      have h5 := h h4
      have h6 : s[j + 1]'h4 = b := by
        have := (lst_at h4).symm.trans h2
        injection this
      rw [h6, h1] at h5
      cases h5
theorem kindE (s : ByteArray) (w : World) : Calls Tryz.prog 61 #[.string s] w fun e w' => (∃ n ec : Int, e = .returned (.tuple #[.int .i64 n, .int .i64 ec]) ∧ (ec = 0 ∧ kindP (lst s) = some n ∨ ec = 3 ∧ n = 0 ∧ kindP (lst s) = none)) ∧ Only [] w w' := by
  refine (rkindOf_any s w).mono fun e w' ⟨h1, h2⟩ => ⟨?_, h2⟩
  refine ⟨_, _, h1, ?_⟩
  unfold kindU
  cases kindP (lst s) with
  | some n => exact .inl ⟨rfl, rfl⟩
  | none => exact .inr ⟨rfl, rfl, rfl⟩
set_option maxRecDepth 100000 in
set_option maxHeartbeats 8000000 in
theorem own_kind (s : ByteArray) (j E : Nat) (w : World) (hs : s.size ≤ 262144) (hj : j < s.size) (hb : (s[j]'hj).toNat = 58) (hjE : j + 1 ≤ E) (hle : E ≤ s.size)
    (hin : ∀ m, j + 1 ≤ m → m < E → ∀ hm : m < s.size, (isSm (s[m]'hm) || isCap (s[m]'hm)) = true ∨ ((isSm (s[m]'hm) || isCap (s[m]'hm)) = false ∧ j + 1 < m ∧ isWd (s[m]'hm) = true))
    (hout : ∀ hm : E < s.size, (isSm (s[E]'hm) || isCap (s[E]'hm)) = false ∧ (j + 1 < E → isDig (s[E]'hm) = false ∧ (s[E]'hm).toNat ≠ 95))
    (hq : qkAt s j = (match kindP (lst (s.extract (j + 1) E)) with | some n => .leaf (.kind n) | none => .bad)) (hf : ∀ n, kindP (lst (s.extract (j + 1) E)) = some n → qfin s j = E) :
    Calls Tryz.prog 39 #[.string s, .int .i64 j] w fun e w' => QTokE s j e ∧ Only [] w w' := by
  have rs := store_com
  have HK := Lib.hid (fun w => kindE (s.extract (j + 1) E) w)
  have HQ := Lib.hid hq
  have HF := Lib.hid hf
  have HIN := Lib.hid hin
  have HOUT := Lib.hid hout
  have e36 : ((((s[j]'hj).toNat : Nat) : Int) == 36) = false := by rw [hb]; rfl
  have hjn : (j : Int) < (s.size : Int) := by omega
  have q1 : IntKind.i64.wrap ((j : Int) + 1) = (j : Int) + 1 := IntWalk.i64_in _ (by omega)
  have B0 := Lib.hid (Bk.made w 64 (qtz 0 false 0 0))
  have O0 := Lib.hid ((Only.refl [] w).alloc (.cells (qtz 0 false 0 0) 64))
  clear hq hf hb hin hout
  go_enter Tryz.func39, Tryz.ntmps39
  go_wp2_with fail
  go_loopw [5] (fun v wr => ∃ m : Nat, v = .int .i64 (m : Int) ∧ j + 1 ≤ m ∧ m ≤ E ∧ w.alloc (.cells (qtz 0 false 0 0) 64) = wr) (fun v _ => s.size - (intOf v).toNat)
  case atStart => exact ⟨j + 1, by go_num, Nat.le_refl _, hjE, rfl⟩
  case round =>
    obtain ⟨m, rfl, hm, hmE, rfl⟩ := hrel
    by_cases hlt : m < E
    · have hms : m < s.size := by omega
      have p1 : (m : Int) < (s.size : Int) := by omega
      have p2 : 0 ≤ (m : Int) := by omega
      have q2 : IntKind.i64.wrap ((m : Int) + 1) = (m : Int) + 1 := IntWalk.i64_in _ (by omega)
      have HL := Lib.hid (fun w => r5letter (s[m]'hms) w)
      rcases HIN.out m hm hlt hms with hl | ⟨hl, hjm, hw⟩
      · rw [hl] at HL
        clear hl
        go_wp2_with fail
        (with_reducible refine (HL.out _).mono ?_)
        rintro e w2 ⟨rfl, rfl⟩
        go_wp2_with fail
        go_roundw
        case rel => exact ⟨m + 1, by go_num, by omega, by omega, by trivial⟩
        case measure => simp [intOf]; omega
      · rw [hl] at HL
        have p3 : (j : Int) + 1 < (m : Int) := by omega
        have HD := Lib.hid (fun w => r5digit (s[m]'hms) w)
        cases hd : isDig (s[m]'hms) with
        | true =>
          rw [hd] at HD
          clear hl hd hw
          go_wp2_with fail
          (with_reducible refine (HL.out _).mono ?_)
          rintro e w2 ⟨rfl, rfl⟩
          go_wp2_with fail
          (with_reducible refine (HD.out _).mono ?_)
          rintro e w2 ⟨rfl, rfl⟩
          go_wp2_with fail
          go_roundw
          case rel => exact ⟨m + 1, by go_num, by omega, by omega, by trivial⟩
          case measure => simp [intOf]; omega
        | false =>
          rw [hd] at HD
          have h95 : (((s[m]'hms).toNat : Int) == 95) = true := by
            simp only [isWd, isSm, isDig, isCap, Bool.or_eq_true, Bool.and_eq_true, Bool.or_eq_false_iff, Bool.and_eq_false_iff, decide_eq_true_eq, decide_eq_false_iff_not] at hl hd hw
            rw [beq_iff_eq]
            omega
          clear hl hd hw
          go_wp2_with fail
          (with_reducible refine (HL.out _).mono ?_)
          rintro e w2 ⟨rfl, rfl⟩
          go_wp2_with fail
          (with_reducible refine (HD.out _).mono ?_)
          rintro e w2 ⟨rfl, rfl⟩
          go_wp2_with fail
          go_roundw
          case rel => exact ⟨m + 1, by go_num, by omega, by omega, by trivial⟩
          case measure => simp [intOf]; omega
    · obtain rfl : E = m := by omega
      clear hlt hmE hm
      have p3 : (j : Int) + 1 ≤ (E : Int) := by omega
      have p4 : (E : Int) ≤ (s.size : Int) := by omega
      have p5 : 0 ≤ (j : Int) + 1 := by omega
      by_cases hms : E < s.size
      · have p1 : (E : Int) < (s.size : Int) := by omega
        have p2 : 0 ≤ (E : Int) := by omega
        obtain ⟨hl, hr⟩ := HOUT.out hms
        have HL := Lib.hid (fun w => r5letter (s[E]'hms) w)
        rw [hl] at HL
        clear hl
        by_cases hjm : j + 1 < E
        · have p6 : (j : Int) + 1 < (E : Int) := by omega
          obtain ⟨hd, h95⟩ := hr hjm
          have HD := Lib.hid (fun w => r5digit (s[E]'hms) w)
          rw [hd] at HD
          have g95 : (((s[E]'hms).toNat : Int) == 95) = false := by rw [beq_eq_false_iff_ne]; omega
          clear hd h95 hr hjm
          go_wp2_with fail
          (with_reducible refine (HL.out _).mono ?_)
          rintro e w2 ⟨rfl, rfl⟩
          go_wp2_with fail
          (with_reducible refine (HD.out _).mono ?_)
          rintro e w2 ⟨rfl, rfl⟩
          go_wp2_with fail
          (with_reducible refine (HK.out _).mono ?_)
          rintro e w3 ⟨⟨n, ec, rfl, hr⟩, o3⟩
          have B3 := Lib.hid (B0.out.only o3 (by simp))
          have O3 := Lib.hid (O0.out.trans o3 (by simp))
          have L3 := B3.out.lt
          obtain ⟨z0, z1, z2, z3, z4, z5, z6, z7, z8, z9, z10, z11, z12, z13, z14, z15⟩ := B3.out.sixteen
          have zf := B3.out.free
          clear o3
          rcases hr with ⟨rfl, hr⟩ | ⟨rfl, rfl, hr⟩
          · have HB := Lib.hid (show QTokE s j (.returned (.agg (qtg true 4 n 0 0 0 0 ⟨#[]⟩ 0 0 0 false j (E : Nat)))) from by
              have := qtokE_leaf (p := .kind n) hj (by rw [HQ.out, hr])
              rw [HF.out n hr] at this
              exact this)
            clear hr
            go_wp2_with (refine wpList_store_row (by rfl) _ _ _ (by rfl) w.heap.size (#[.bool true, .int .i64 4, .int .i64 n, .int .i64 0, .int .i64 0, .complex .f64 0 0, .string ⟨#[]⟩, .int .i64 0, .int .i64 0, .slice none 0 0, .slice none 0 0, .slice none 0 0, .int .u8 0, .bool false, .int .i64 j, .int .i64 (E : Nat)]) (by rfl) (by rfl) 64 _ B3.out (by kernel_rfl) (by rfl) (by simp [Value.oneCell']) ?_)
            generalize hW : World.setRow _ _ _ = W7 at *
            obtain ⟨B7, O7⟩ := row_set B3.out hW
            clear hW z0 z1 z2 z3 z4 z5 z6 z7 z8 z9 z10 z11 z12 z13 z14 z15 zf
            have O8 := O3.out.trans O7 (fun b hb => .inr (by rw [List.mem_singleton.1 hb]; omega))
            exact res1 Tryz.results39 B7 (by rfl) (by rfl) Tryz.underlying64 (by kernel_rfl) rfl ⟨HB.out, O8⟩
          · have HB := Lib.hid (qtokE_bad hj (by rw [HQ.out, hr]) (E : Nat))
            clear hr
            go_wp2_with (refine wpList_store_row (by rfl) _ _ _ (by rfl) w.heap.size (#[.bool false, .int .i64 0, .int .i64 0, .int .i64 0, .int .i64 0, .complex .f64 0 0, .string ⟨#[]⟩, .int .i64 0, .int .i64 0, .slice none 0 0, .slice none 0 0, .slice none 0 0, .int .u8 0, .bool false, .int .i64 j, .int .i64 (E : Nat)]) (by rfl) (by rfl) 64 _ B3.out (by kernel_rfl) (by rfl) (by simp [Value.oneCell']) ?_)
            generalize hW : World.setRow _ _ _ = W7 at *
            obtain ⟨B7, O7⟩ := row_set B3.out hW
            clear hW z0 z1 z2 z3 z4 z5 z6 z7 z8 z9 z10 z11 z12 z13 z14 z15 zf
            have O8 := O3.out.trans O7 (fun b hb => .inr (by rw [List.mem_singleton.1 hb]; omega))
            exact res1 Tryz.results39 B7 (by rfl) (by rfl) Tryz.underlying64 (by kernel_rfl) rfl ⟨HB.out, O8⟩
        · have p6 : ¬ (j : Int) + 1 < (E : Int) := by omega
          clear hr hjm
          go_wp2_with fail
          (with_reducible refine (HL.out _).mono ?_)
          rintro e w2 ⟨rfl, rfl⟩
          go_wp2_with fail
          (with_reducible refine (HK.out _).mono ?_)
          rintro e w3 ⟨⟨n, ec, rfl, hr⟩, o3⟩
          have B3 := Lib.hid (B0.out.only o3 (by simp))
          have O3 := Lib.hid (O0.out.trans o3 (by simp))
          have L3 := B3.out.lt
          obtain ⟨z0, z1, z2, z3, z4, z5, z6, z7, z8, z9, z10, z11, z12, z13, z14, z15⟩ := B3.out.sixteen
          have zf := B3.out.free
          clear o3
          rcases hr with ⟨rfl, hr⟩ | ⟨rfl, rfl, hr⟩
          · have HB := Lib.hid (show QTokE s j (.returned (.agg (qtg true 4 n 0 0 0 0 ⟨#[]⟩ 0 0 0 false j (E : Nat)))) from by
              have := qtokE_leaf (p := .kind n) hj (by rw [HQ.out, hr])
              rw [HF.out n hr] at this
              exact this)
            clear hr
            go_wp2_with (refine wpList_store_row (by rfl) _ _ _ (by rfl) w.heap.size (#[.bool true, .int .i64 4, .int .i64 n, .int .i64 0, .int .i64 0, .complex .f64 0 0, .string ⟨#[]⟩, .int .i64 0, .int .i64 0, .slice none 0 0, .slice none 0 0, .slice none 0 0, .int .u8 0, .bool false, .int .i64 j, .int .i64 (E : Nat)]) (by rfl) (by rfl) 64 _ B3.out (by kernel_rfl) (by rfl) (by simp [Value.oneCell']) ?_)
            generalize hW : World.setRow _ _ _ = W7 at *
            obtain ⟨B7, O7⟩ := row_set B3.out hW
            clear hW z0 z1 z2 z3 z4 z5 z6 z7 z8 z9 z10 z11 z12 z13 z14 z15 zf
            have O8 := O3.out.trans O7 (fun b hb => .inr (by rw [List.mem_singleton.1 hb]; omega))
            exact res1 Tryz.results39 B7 (by rfl) (by rfl) Tryz.underlying64 (by kernel_rfl) rfl ⟨HB.out, O8⟩
          · have HB := Lib.hid (qtokE_bad hj (by rw [HQ.out, hr]) (E : Nat))
            clear hr
            go_wp2_with (refine wpList_store_row (by rfl) _ _ _ (by rfl) w.heap.size (#[.bool false, .int .i64 0, .int .i64 0, .int .i64 0, .int .i64 0, .complex .f64 0 0, .string ⟨#[]⟩, .int .i64 0, .int .i64 0, .slice none 0 0, .slice none 0 0, .slice none 0 0, .int .u8 0, .bool false, .int .i64 j, .int .i64 (E : Nat)]) (by rfl) (by rfl) 64 _ B3.out (by kernel_rfl) (by rfl) (by simp [Value.oneCell']) ?_)
            generalize hW : World.setRow _ _ _ = W7 at *
            obtain ⟨B7, O7⟩ := row_set B3.out hW
            clear hW z0 z1 z2 z3 z4 z5 z6 z7 z8 z9 z10 z11 z12 z13 z14 z15 zf
            have O8 := O3.out.trans O7 (fun b hb => .inr (by rw [List.mem_singleton.1 hb]; omega))
            exact res1 Tryz.results39 B7 (by rfl) (by rfl) Tryz.underlying64 (by kernel_rfl) rfl ⟨HB.out, O8⟩
      · have p1 : ¬ (E : Int) < (s.size : Int) := by omega
        go_wp2_with fail
        (with_reducible refine (HK.out _).mono ?_)
        rintro e w3 ⟨⟨n, ec, rfl, hr⟩, o3⟩
        have B3 := Lib.hid (B0.out.only o3 (by simp))
        have O3 := Lib.hid (O0.out.trans o3 (by simp))
        have L3 := B3.out.lt
        obtain ⟨z0, z1, z2, z3, z4, z5, z6, z7, z8, z9, z10, z11, z12, z13, z14, z15⟩ := B3.out.sixteen
        have zf := B3.out.free
        clear o3
        rcases hr with ⟨rfl, hr⟩ | ⟨rfl, rfl, hr⟩
        · have HB := Lib.hid (show QTokE s j (.returned (.agg (qtg true 4 n 0 0 0 0 ⟨#[]⟩ 0 0 0 false j (E : Nat)))) from by
            have := qtokE_leaf (p := .kind n) hj (by rw [HQ.out, hr])
            rw [HF.out n hr] at this
            exact this)
          clear hr
          go_wp2_with (refine wpList_store_row (by rfl) _ _ _ (by rfl) w.heap.size (#[.bool true, .int .i64 4, .int .i64 n, .int .i64 0, .int .i64 0, .complex .f64 0 0, .string ⟨#[]⟩, .int .i64 0, .int .i64 0, .slice none 0 0, .slice none 0 0, .slice none 0 0, .int .u8 0, .bool false, .int .i64 j, .int .i64 (E : Nat)]) (by rfl) (by rfl) 64 _ B3.out (by kernel_rfl) (by rfl) (by simp [Value.oneCell']) ?_)
          generalize hW : World.setRow _ _ _ = W7 at *
          obtain ⟨B7, O7⟩ := row_set B3.out hW
          clear hW z0 z1 z2 z3 z4 z5 z6 z7 z8 z9 z10 z11 z12 z13 z14 z15 zf
          have O8 := O3.out.trans O7 (fun b hb => .inr (by rw [List.mem_singleton.1 hb]; omega))
          exact res1 Tryz.results39 B7 (by rfl) (by rfl) Tryz.underlying64 (by kernel_rfl) rfl ⟨HB.out, O8⟩
        · have HB := Lib.hid (qtokE_bad hj (by rw [HQ.out, hr]) (E : Nat))
          clear hr
          go_wp2_with (refine wpList_store_row (by rfl) _ _ _ (by rfl) w.heap.size (#[.bool false, .int .i64 0, .int .i64 0, .int .i64 0, .int .i64 0, .complex .f64 0 0, .string ⟨#[]⟩, .int .i64 0, .int .i64 0, .slice none 0 0, .slice none 0 0, .slice none 0 0, .int .u8 0, .bool false, .int .i64 j, .int .i64 (E : Nat)]) (by rfl) (by rfl) 64 _ B3.out (by kernel_rfl) (by rfl) (by simp [Value.oneCell']) ?_)
          generalize hW : World.setRow _ _ _ = W7 at *
          obtain ⟨B7, O7⟩ := row_set B3.out hW
          clear hW z0 z1 z2 z3 z4 z5 z6 z7 z8 z9 z10 z11 z12 z13 z14 z15 zf
          have O8 := O3.out.trans O7 (fun b hb => .inr (by rw [List.mem_singleton.1 hb]; omega))
          exact res1 Tryz.results39 B7 (by rfl) (by rfl) Tryz.underlying64 (by kernel_rfl) rfl ⟨HB.out, O8⟩
theorem own_any (s : ByteArray) (j : Nat) (w : World) (hs : s.size ≤ 262144) (hj : j < s.size) (hb : (s[j]'hj).toNat = 36 ∨ (s[j]'hj).toNat = 58) : Calls Tryz.prog 39 #[.string s, .int .i64 j] w fun e w' => QTokE s j e ∧ Only [] w w' := by
  rcases hb with hb | hb
  · exact own_local s j w hs hj hb
  · have hat := lst_at hj
    have hq : qkAt s j = (match kindP (tailB isWd s j) with | some n => .leaf (.kind n) | none => .bad) := by
      unfold qkAt
      rw [hat]
      simp only
      rw [if_neg (by simp [isPs, isSg]; omega), if_neg (by omega), if_neg (by omega), if_pos hb]
      cases kindP (tailB isWd s j) <;> rfl
    have hf : qfin s j = j + 1 + tailW isWd s j := by
      unfold qfin
      rw [hat]
      simp only
      rw [if_neg (by omega), if_pos hb]
    by_cases hfst : ∃ h1 : j + 1 < s.size, (isSm (s[j + 1]'h1) || isCap (s[j + 1]'h1)) = true
    · obtain ⟨h1, h2⟩ := hfst
      have htb := tailB_lst isWd s j
      have hw : isWd (s[j + 1]'h1) = true := by simp only [isWd, Bool.or_eq_true] at h2 ⊢; rcases h2 with h | h <;> simp [h]
      have hge : j + 1 < j + 1 + tailW isWd s j := by
        have := runP_here (p := isWd) h1
        rw [if_pos hw] at this
        unfold tailW
        omega
      refine own_kind s j (j + 1 + tailW isWd s j) w hs hj hb (by omega) (tailW_le isWd s j hj) (fun m h3 h4 hm => ?_) (fun hm => ?_) (by rw [htb]; exact hq) (fun n _ => hf)
      · have hwm := tail_in h3 h4 hm
        cases hl : (isSm (s[m]'hm) || isCap (s[m]'hm)) with
        | true => exact .inl rfl
        | false =>
          refine .inr ⟨rfl, ?_, hwm⟩
          apply Nat.lt_of_not_le
          intro hle
          obtain rfl : m = j + 1 := by omega
          rw [h2] at hl
          cases hl
      · have hwm := tail_out (p := isWd) rfl hm
        simp only [isWd, Bool.or_eq_false_iff, decide_eq_false_iff_not] at hwm
        exact ⟨by simp [hwm.1.1.1, hwm.1.2], fun _ => ⟨hwm.1.1.2, hwm.2⟩⟩
    · have hno : ∀ h1 : j + 1 < s.size, (isSm (s[j + 1]'h1) || isCap (s[j + 1]'h1)) = false := fun h1 => by
        cases h2 : (isSm (s[j + 1]'h1) || isCap (s[j + 1]'h1)) with
        | false => rfl
        | true => exact absurd ⟨h1, h2⟩ hfst
      have hnil : lst (s.extract (j + 1) (j + 1)) = [] := by rw [ext_lst, Nat.sub_self, List.take_zero]
      have hkn : kindP (lst (s.extract (j + 1) (j + 1))) = none := by rw [hnil]; rfl
      exact own_kind s j (j + 1) w hs hj hb (Nat.le_refl _) hj (fun m h3 h4 => by omega) (fun hm => ⟨hno hm, fun h => by omega⟩) (by rw [hkn, hq, kind_first hno]) (fun n h => by rw [hkn] at h; cases h)
set_option maxRecDepth 100000 in
set_option maxHeartbeats 4000000 in
theorem tokAt_end (s : ByteArray) (i j : Nat) (w : World) (hs : s.size ≤ 262144) (hi : i ≤ s.size) (hn : nxt s i = j) (hj : ¬ j < s.size) :
    Calls Tryz.prog 24 #[.string s, .int .i64 i] w fun e w' => QTokE s j e ∧ Only [] w w' := by
  have rs := store_com
  have K := Lib.hid (fun w => (at_any s i w hs hi).mono fun v w' ⟨h1, h2⟩ => (show v = Ending.returned (.agg (tks 0 0 0 0 0 0 ⟨#[]⟩ 0 0 (.slice none 0 0) s.size s.size)) ∧ Only [] w w' from ⟨by unfold AtE at h1; rw [if_neg (by rw [hn]; exact hj)] at h1; exact h1, h2⟩))
  have HB := Lib.hid (qtokE_end hj)
  have B0 := Lib.hid (Bk.made w 64 (qtz 0 false 0 0))
  have O0 := Lib.hid ((Only.refl [] w).alloc (.cells (qtz 0 false 0 0) 64))
  clear hs hi hn
  go_enter Tryz.func24, Tryz.ntmps24
  go_wp2_with fail
  (with_reducible refine (K.out _).mono ?_)
  rintro e1 w1 ⟨rfl, o1⟩
  have B1 := Lib.hid ((B0.out.only o1 (by simp)).alloc (.cells (tks 0 0 0 0 0 0 ⟨#[]⟩ 0 0 (.slice none 0 0) s.size s.size) 82))
  have O1 := Lib.hid ((O0.out.trans o1 (by simp)).alloc (.cells (tks 0 0 0 0 0 0 ⟨#[]⟩ 0 0 (.slice none 0 0) s.size s.size) 82))
  have D1 := Lib.hid (Bk.made w1 82 (tks 0 0 0 0 0 0 ⟨#[]⟩ 0 0 (.slice none 0 0) s.size s.size))
  have L1 := (B0.out.only o1 (by simp)).lt
  clear o1
  obtain ⟨z0, z1, z2, z3, z4, z5, z6, z7, z8, z9, z10, z11, z12, z13, z14, z15⟩ := B1.out.sixteen
  have zf := B1.out.free
  obtain ⟨y0, y1, y2, y3, y4, y5, y6, y7, y8, y9, y10⟩ := D1.out.eleven
  clear hj
  go_wp2_with (refine wpList_store_row (by rfl) _ _ _ (by rfl) w.heap.size (#[.bool false, .int .i64 0, .int .i64 0, .int .i64 0, .int .i64 0, .complex .f64 0 0, .string ⟨#[]⟩, .int .i64 0, .int .i64 0, .slice none 0 0, .slice none 0 0, .slice none 0 0, .int .u8 0, .bool true, .int .i64 s.size, .int .i64 s.size]) (by rfl) (by rfl) 64 _ B1.out (by kernel_rfl) (by rfl) (by simp [Value.oneCell']) ?_)
  generalize hW : World.setRow _ _ _ = W7 at *
  obtain ⟨B7, O7⟩ := row_set B1.out hW
  clear hW z0 z1 z2 z3 z4 z5 z6 z7 z8 z9 z10 z11 z12 z13 z14 z15 zf y0 y1 y2 y3 y4 y5 y6 y7 y8 y9 y10
  have O8 := O1.out.trans O7 (fun b hb => .inr (by rw [List.mem_singleton.1 hb]; omega))
  exact res1 Tryz.results24 B7 (by rfl) (by rfl) Tryz.underlying64 (by kernel_rfl) rfl ⟨HB.out, O8⟩
set_option maxRecDepth 100000 in
set_option maxHeartbeats 4000000 in
theorem tokAt_leaf (s : ByteArray) (i j : Nat) (w : World) (hs : s.size ≤ 262144) (hi : i ≤ s.size) (hn : nxt s i = j) (t : T) (hj : j < s.size) (h : tkAt s j = .term t) (h2 : qkAt s j = .leaf (.term t)) (hf : qfin s j = fin s j) :
    Calls Tryz.prog 24 #[.string s, .int .i64 i] w fun e w' => QTokE s j e ∧ Only [] w w' := by
  have rs := store_com
  have K := Lib.hid (fun w => at_t s i t i w hs hi rfl (by rw [hn]; exact hj) (by rw [hn]; exact h))
  rw [hn] at K
  have HB := Lib.hid (qtokE_leaf hj h2)
  rw [hf] at HB
  clear h h2 hf hj
  generalize fin s j = f at *
  have B0 := Lib.hid (Bk.made w 64 (qtz 0 false 0 0))
  have O0 := Lib.hid ((Only.refl [] w).alloc (.cells (qtz 0 false 0 0) 64))
  clear hs hi hn
  go_enter Tryz.func24, Tryz.ntmps24
  go_wp2_with fail
  (with_reducible refine (K.out _).mono ?_)
  rintro e1 w1 ⟨rfl, o1⟩
  have B1 := Lib.hid ((B0.out.only o1 (by simp)).alloc (.cells (tkT t j f) 82))
  have O1 := Lib.hid ((O0.out.trans o1 (by simp)).alloc (.cells (tkT t j f) 82))
  have D1 := Lib.hid (Bk.made w1 82 (tkT t j f))
  have L1 := (B0.out.only o1 (by simp)).lt
  clear o1
  obtain ⟨z0, z1, z2, z3, z4, z5, z6, z7, z8, z9, z10, z11, z12, z13, z14, z15⟩ := B1.out.sixteen
  have zf := B1.out.free
  obtain ⟨y0, y1, y2, y3, y4, y5, y6, y7, y8, y9, y10⟩ := D1.out.eleven
  go_wp2_with (refine wpList_store_row (by rfl) _ _ _ (by rfl) w.heap.size (#[.bool true, .int .i64 3, .int .i64 0, .int .i64 t.k, .int .i64 t.n, .complex .f64 t.x t.y, .string t.S, .int .i64 t.a, .int .i64 t.b, .slice none 0 0, .slice none 0 0, .slice none 0 0, .int .u8 0, .bool false, .int .i64 j, .int .i64 f]) (by rfl) (by rfl) 64 _ B1.out (by kernel_rfl) (by rfl) (by simp [Value.oneCell']) ?_)
  generalize hW : World.setRow _ _ _ = W7 at *
  obtain ⟨B7, O7⟩ := row_set B1.out hW
  clear hW z0 z1 z2 z3 z4 z5 z6 z7 z8 z9 z10 z11 z12 z13 z14 z15 zf y0 y1 y2 y3 y4 y5 y6 y7 y8 y9 y10
  have O8 := O1.out.trans O7 (fun b hb => .inr (by rw [List.mem_singleton.1 hb]; omega))
  exact res1 Tryz.results24 B7 (by rfl) (by rfl) Tryz.underlying64 (by kernel_rfl) rfl ⟨HB.out, O8⟩
set_option maxRecDepth 100000 in
set_option maxHeartbeats 4000000 in
theorem tokAt_sign (s : ByteArray) (i j : Nat) (w : World) (hs : s.size ≤ 262144) (hi : i ≤ s.size) (hn : nxt s i = j) (b : UInt8) (hj : j < s.size) (h : tkAt s j = .sign b) (h2 : qkAt s j = .sign b) :
    Calls Tryz.prog 24 #[.string s, .int .i64 i] w fun e w' => QTokE s j e ∧ Only [] w w' := by
  have rs := store_com
  have K := Lib.hid (fun w => at_s s i j b i w hs hi rfl hn hj h)
  have HB := Lib.hid (qtokE_sign hj h2)
  clear h h2 hj
  have B0 := Lib.hid (Bk.made w 64 (qtz 0 false 0 0))
  have O0 := Lib.hid ((Only.refl [] w).alloc (.cells (qtz 0 false 0 0) 64))
  clear hs hi hn
  go_enter Tryz.func24, Tryz.ntmps24
  go_wp2_with fail
  (with_reducible refine (K.out _).mono ?_)
  rintro e1 w1 ⟨rfl, o1⟩
  have B1 := Lib.hid ((B0.out.only o1 (by simp)).alloc (.cells (tks 1 b.toNat 0 0 0 0 ⟨#[]⟩ 0 0 (.slice none 0 0) j ((j : Int) + 1)) 82))
  have O1 := Lib.hid ((O0.out.trans o1 (by simp)).alloc (.cells (tks 1 b.toNat 0 0 0 0 ⟨#[]⟩ 0 0 (.slice none 0 0) j ((j : Int) + 1)) 82))
  have D1 := Lib.hid (Bk.made w1 82 (tks 1 b.toNat 0 0 0 0 ⟨#[]⟩ 0 0 (.slice none 0 0) j ((j : Int) + 1)))
  have L1 := (B0.out.only o1 (by simp)).lt
  clear o1
  obtain ⟨z0, z1, z2, z3, z4, z5, z6, z7, z8, z9, z10, z11, z12, z13, z14, z15⟩ := B1.out.sixteen
  have zf := B1.out.free
  obtain ⟨y0, y1, y2, y3, y4, y5, y6, y7, y8, y9, y10⟩ := D1.out.eleven
  go_wp2_with (refine wpList_store_row (by rfl) _ _ _ (by rfl) w.heap.size (#[.bool false, .int .i64 0, .int .i64 0, .int .i64 0, .int .i64 0, .complex .f64 0 0, .string ⟨#[]⟩, .int .i64 0, .int .i64 0, .slice none 0 0, .slice none 0 0, .slice none 0 0, .int .u8 b.toNat, .bool false, .int .i64 j, .int .i64 ((j : Int) + 1)]) (by rfl) (by rfl) 64 _ B1.out (by kernel_rfl) (by rfl) (by simp [Value.oneCell']) ?_)
  generalize hW : World.setRow _ _ _ = W7 at *
  obtain ⟨B7, O7⟩ := row_set B1.out hW
  clear hW z0 z1 z2 z3 z4 z5 z6 z7 z8 z9 z10 z11 z12 z13 z14 z15 zf y0 y1 y2 y3 y4 y5 y6 y7 y8 y9 y10
  have O8 := O1.out.trans O7 (fun b hb => .inr (by rw [List.mem_singleton.1 hb]; omega))
  exact res1 Tryz.results24 B7 (by rfl) (by rfl) Tryz.underlying64 (by kernel_rfl) rfl ⟨HB.out, O8⟩
set_option maxRecDepth 100000 in
set_option maxHeartbeats 4000000 in
theorem tokAt_any (s : ByteArray) (i j : Nat) (w : World) (hs : s.size ≤ 262144) (hi : i ≤ s.size) (hn : nxt s i = j) (hj : j < s.size) (h : tkAt s j = .bad) (hb : (s[j]'hj).toNat = 95) :
    Calls Tryz.prog 24 #[.string s, .int .i64 i] w fun e w' => QTokE s j e ∧ Only [] w w' := by
  have rs := store_com
  have K := Lib.hid (fun w => (at_any s i w hs hi).mono fun v w' ⟨h1, h2⟩ => (show (∃ e' : Int, v = Ending.returned (.agg (tkB j e'))) ∧ Only [] w w' from ⟨by unfold AtE at h1; rw [hn, if_pos hj] at h1; unfold TokE at h1; rw [h] at h1; exact h1, h2⟩))
  have hjn : (j : Int) < (s.size : Int) := by omega
  have hj0 : 0 ≤ (j : Int) := by omega
  have q1 : IntKind.i64.wrap ((j : Int) + 1) = (j : Int) + 1 := IntWalk.i64_in _ (by omega)
  have g95 : ((((s[j]'hj).toNat : Nat) : Int) == 95) = true := by rw [hb]; rfl
  have HB := Lib.hid (show QTokE s j (.returned (.agg (qtg true 1 0 0 0 0 0 ⟨#[]⟩ 0 0 0 false j ((j : Int) + 1)))) from by
    have := qtokE_leaf (p := .any) hj (by unfold qkAt; rw [lst_at hj]; simp only; rw [if_neg (by simp [isPs, isSg]; omega), if_pos hb])
    have hf : qfin s j = j + 1 := by unfold qfin; rw [lst_at hj]; simp only; rw [if_neg (by omega), if_neg (by omega), if_pos (.inr hb)]
    rw [hf] at this
    exact this)
  clear h hb
  have B0 := Lib.hid (Bk.made w 64 (qtz 0 false 0 0))
  have O0 := Lib.hid ((Only.refl [] w).alloc (.cells (qtz 0 false 0 0) 64))
  clear hs hi hn
  go_enter Tryz.func24, Tryz.ntmps24
  go_wp2_with fail
  (with_reducible refine (K.out _).mono ?_)
  rintro e1 w1 ⟨⟨e', rfl⟩, o1⟩
  have B1 := Lib.hid ((B0.out.only o1 (by simp)).alloc (.cells (tkB j e') 82))
  have O1 := Lib.hid ((O0.out.trans o1 (by simp)).alloc (.cells (tkB j e') 82))
  have D1 := Lib.hid (Bk.made w1 82 (tkB j e'))
  have L1 := (B0.out.only o1 (by simp)).lt
  clear o1
  obtain ⟨z0, z1, z2, z3, z4, z5, z6, z7, z8, z9, z10, z11, z12, z13, z14, z15⟩ := B1.out.sixteen
  have zf := B1.out.free
  obtain ⟨y0, y1, y2, y3, y4, y5, y6, y7, y8, y9, y10⟩ := D1.out.eleven
  go_wp2_with (refine wpList_store_row (by rfl) _ _ _ (by rfl) w.heap.size (#[.bool true, .int .i64 1, .int .i64 0, .int .i64 0, .int .i64 0, .complex .f64 0 0, .string ⟨#[]⟩, .int .i64 0, .int .i64 0, .slice none 0 0, .slice none 0 0, .slice none 0 0, .int .u8 0, .bool false, .int .i64 j, .int .i64 ((j : Int) + 1)]) (by rfl) (by rfl) 64 _ B1.out (by kernel_rfl) (by rfl) (by simp [Value.oneCell']) ?_)
  generalize hW : World.setRow _ _ _ = W7 at *
  obtain ⟨B7, O7⟩ := row_set B1.out hW
  clear hW z0 z1 z2 z3 z4 z5 z6 z7 z8 z9 z10 z11 z12 z13 z14 z15 zf y0 y1 y2 y3 y4 y5 y6 y7 y8 y9 y10
  have O8 := O1.out.trans O7 (fun b hb => .inr (by rw [List.mem_singleton.1 hb]; omega))
  exact res1 Tryz.results24 B7 (by rfl) (by rfl) Tryz.underlying64 (by kernel_rfl) rfl ⟨HB.out, O8⟩
set_option maxRecDepth 100000 in
set_option maxHeartbeats 4000000 in
theorem tokAt_bar (s : ByteArray) (i j : Nat) (w : World) (hs : s.size ≤ 262144) (hi : i ≤ s.size) (hn : nxt s i = j) (hj : j < s.size) (h : tkAt s j = .bad) (hb : (s[j]'hj).toNat = 124) :
    Calls Tryz.prog 24 #[.string s, .int .i64 i] w fun e w' => QTokE s j e ∧ Only [] w w' := by
  have rs := store_com
  have K := Lib.hid (fun w => (at_any s i w hs hi).mono fun v w' ⟨h1, h2⟩ => (show (∃ e' : Int, v = Ending.returned (.agg (tkB j e'))) ∧ Only [] w w' from ⟨by unfold AtE at h1; rw [hn, if_pos hj] at h1; unfold TokE at h1; rw [h] at h1; exact h1, h2⟩))
  have hjn : (j : Int) < (s.size : Int) := by omega
  have hj0 : 0 ≤ (j : Int) := by omega
  have q1 : IntKind.i64.wrap ((j : Int) + 1) = (j : Int) + 1 := IntWalk.i64_in _ (by omega)
  have g95 : ((((s[j]'hj).toNat : Nat) : Int) == 95) = false := by rw [beq_eq_false_iff_ne]; omega
  have g124 : ((((s[j]'hj).toNat : Nat) : Int) == 124) = true := by rw [hb]; rfl
  have HB := Lib.hid (show QTokE s j (.returned (.agg (qtz 124 false j ((j : Int) + 1)))) from by
    have := qtokE_sign hj (qk_signs (lst_at hj) (by simp [isPs]; exact .inr hb)).1
    rw [hb] at this
    exact this)
  clear h hb
  have B0 := Lib.hid (Bk.made w 64 (qtz 0 false 0 0))
  have O0 := Lib.hid ((Only.refl [] w).alloc (.cells (qtz 0 false 0 0) 64))
  clear hs hi hn
  go_enter Tryz.func24, Tryz.ntmps24
  go_wp2_with fail
  (with_reducible refine (K.out _).mono ?_)
  rintro e1 w1 ⟨⟨e', rfl⟩, o1⟩
  have B1 := Lib.hid ((B0.out.only o1 (by simp)).alloc (.cells (tkB j e') 82))
  have O1 := Lib.hid ((O0.out.trans o1 (by simp)).alloc (.cells (tkB j e') 82))
  have D1 := Lib.hid (Bk.made w1 82 (tkB j e'))
  have L1 := (B0.out.only o1 (by simp)).lt
  clear o1
  obtain ⟨z0, z1, z2, z3, z4, z5, z6, z7, z8, z9, z10, z11, z12, z13, z14, z15⟩ := B1.out.sixteen
  have zf := B1.out.free
  obtain ⟨y0, y1, y2, y3, y4, y5, y6, y7, y8, y9, y10⟩ := D1.out.eleven
  go_wp2_with (refine wpList_store_row (by rfl) _ _ _ (by rfl) w.heap.size (#[.bool false, .int .i64 0, .int .i64 0, .int .i64 0, .int .i64 0, .complex .f64 0 0, .string ⟨#[]⟩, .int .i64 0, .int .i64 0, .slice none 0 0, .slice none 0 0, .slice none 0 0, .int .u8 124, .bool false, .int .i64 j, .int .i64 ((j : Int) + 1)]) (by rfl) (by rfl) 64 _ B1.out (by kernel_rfl) (by rfl) (by simp [Value.oneCell']) ?_)
  generalize hW : World.setRow _ _ _ = W7 at *
  obtain ⟨B7, O7⟩ := row_set B1.out hW
  clear hW z0 z1 z2 z3 z4 z5 z6 z7 z8 z9 z10 z11 z12 z13 z14 z15 zf y0 y1 y2 y3 y4 y5 y6 y7 y8 y9 y10
  have O8 := O1.out.trans O7 (fun b hb => .inr (by rw [List.mem_singleton.1 hb]; omega))
  exact res1 Tryz.results24 B7 (by rfl) (by rfl) Tryz.underlying64 (by kernel_rfl) rfl ⟨HB.out, O8⟩
set_option maxRecDepth 100000 in
set_option maxHeartbeats 4000000 in
theorem tokAt_bad (s : ByteArray) (i j : Nat) (w : World) (hs : s.size ≤ 262144) (hi : i ≤ s.size) (hn : nxt s i = j) (hj : j < s.size) (h : tkAt s j = .bad) (h2 : qkAt s j = .bad) (hb : (s[j]'hj).toNat ≠ 95 ∧ (s[j]'hj).toNat ≠ 124 ∧ (s[j]'hj).toNat ≠ 36 ∧ (s[j]'hj).toNat ≠ 58) :
    Calls Tryz.prog 24 #[.string s, .int .i64 i] w fun e w' => QTokE s j e ∧ Only [] w w' := by
  have rs := store_com
  have K := Lib.hid (fun w => (at_any s i w hs hi).mono fun v w' ⟨h1, h2⟩ => (show (∃ e' : Int, v = Ending.returned (.agg (tkB j e'))) ∧ Only [] w w' from ⟨by unfold AtE at h1; rw [hn, if_pos hj] at h1; unfold TokE at h1; rw [h] at h1; exact h1, h2⟩))
  have hjn : (j : Int) < (s.size : Int) := by omega
  have hj0 : 0 ≤ (j : Int) := by omega
  have q1 : IntKind.i64.wrap ((j : Int) + 1) = (j : Int) + 1 := IntWalk.i64_in _ (by omega)
  have g95 : ((((s[j]'hj).toNat : Nat) : Int) == 95) = false := by rw [beq_eq_false_iff_ne]; omega
  have g124 : ((((s[j]'hj).toNat : Nat) : Int) == 124) = false := by rw [beq_eq_false_iff_ne]; omega
  have g36 : ((((s[j]'hj).toNat : Nat) : Int) == 36) = false := by rw [beq_eq_false_iff_ne]; omega
  have g58 : ((((s[j]'hj).toNat : Nat) : Int) == 58) = false := by rw [beq_eq_false_iff_ne]; omega
  have HB := Lib.hid (fun e' => qtokE_bad hj h2 e')
  clear h h2 hb
  have B0 := Lib.hid (Bk.made w 64 (qtz 0 false 0 0))
  have O0 := Lib.hid ((Only.refl [] w).alloc (.cells (qtz 0 false 0 0) 64))
  clear hs hi hn
  go_enter Tryz.func24, Tryz.ntmps24
  go_wp2_with fail
  (with_reducible refine (K.out _).mono ?_)
  rintro e1 w1 ⟨⟨e', rfl⟩, o1⟩
  have B1 := Lib.hid ((B0.out.only o1 (by simp)).alloc (.cells (tkB j e') 82))
  have O1 := Lib.hid ((O0.out.trans o1 (by simp)).alloc (.cells (tkB j e') 82))
  have D1 := Lib.hid (Bk.made w1 82 (tkB j e'))
  have L1 := (B0.out.only o1 (by simp)).lt
  clear o1
  obtain ⟨z0, z1, z2, z3, z4, z5, z6, z7, z8, z9, z10, z11, z12, z13, z14, z15⟩ := B1.out.sixteen
  have zf := B1.out.free
  obtain ⟨y0, y1, y2, y3, y4, y5, y6, y7, y8, y9, y10⟩ := D1.out.eleven
  go_wp2_with (refine wpList_store_row (by rfl) _ _ _ (by rfl) w.heap.size (#[.bool false, .int .i64 0, .int .i64 0, .int .i64 0, .int .i64 0, .complex .f64 0 0, .string ⟨#[]⟩, .int .i64 0, .int .i64 0, .slice none 0 0, .slice none 0 0, .slice none 0 0, .int .u8 0, .bool false, .int .i64 j, .int .i64 e']) (by rfl) (by rfl) 64 _ B1.out (by kernel_rfl) (by rfl) (by simp [Value.oneCell']) ?_)
  generalize hW : World.setRow _ _ _ = W7 at *
  obtain ⟨B7, O7⟩ := row_set B1.out hW
  clear hW z0 z1 z2 z3 z4 z5 z6 z7 z8 z9 z10 z11 z12 z13 z14 z15 zf y0 y1 y2 y3 y4 y5 y6 y7 y8 y9 y10
  have O8 := O1.out.trans O7 (fun b hb => .inr (by rw [List.mem_singleton.1 hb]; omega))
  exact res1 Tryz.results24 B7 (by rfl) (by rfl) Tryz.underlying64 (by kernel_rfl) rfl ⟨HB.out e', O8⟩
theorem qtokE_cells {s : ByteArray} {j : Nat} {e : Ending} (h : QTokE s j e) : ∃ (wh : Bool) (k n tk tn : Int) (x y : Nat) (S : ByteArray) (a b sg : Int) (en : Bool) (at' nx : Int), e = .returned (.agg (qtg wh k n tk tn x y S a b sg en at' nx)) ∧ QTokE s j e := by
  have h0 := h
  unfold QTokE at h
  split at h
  · split at h
    · exact ⟨_, _, _, _, _, _, _, _, _, _, _, _, _, _, h, h0⟩
    · exact ⟨_, _, _, _, _, _, _, _, _, _, _, _, _, _, h, h0⟩
    · obtain ⟨e', h⟩ := h
      exact ⟨_, _, _, _, _, _, _, _, _, _, _, _, _, _, h, h0⟩
  · exact ⟨_, _, _, _, _, _, _, _, _, _, _, _, _, _, h, h0⟩
set_option maxRecDepth 100000 in
set_option maxHeartbeats 4000000 in
theorem tokAt_own (s : ByteArray) (i j : Nat) (w : World) (hs : s.size ≤ 262144) (hi : i ≤ s.size) (hn : nxt s i = j) (hj : j < s.size) (h : tkAt s j = .bad) (hb : (s[j]'hj).toNat = 36 ∨ (s[j]'hj).toNat = 58) :
    Calls Tryz.prog 24 #[.string s, .int .i64 i] w fun e w' => QTokE s j e ∧ Only [] w w' := by
  have rs := store_com
  have K := Lib.hid (fun w => (at_any s i w hs hi).mono fun v w' ⟨h1, h2⟩ => (show (∃ e' : Int, v = Ending.returned (.agg (tkB j e'))) ∧ Only [] w w' from ⟨by unfold AtE at h1; rw [hn, if_pos hj] at h1; unfold TokE at h1; rw [h] at h1; exact h1, h2⟩))
  have hjn : (j : Int) < (s.size : Int) := by omega
  have hj0 : 0 ≤ (j : Int) := by omega
  have q1 : IntKind.i64.wrap ((j : Int) + 1) = (j : Int) + 1 := IntWalk.i64_in _ (by omega)
  have g95 : ((((s[j]'hj).toNat : Nat) : Int) == 95) = false := by rw [beq_eq_false_iff_ne]; omega
  have g124 : ((((s[j]'hj).toNat : Nat) : Int) == 124) = false := by rw [beq_eq_false_iff_ne]; omega
  have HO := Lib.hid (fun w => (own_any s j w hs hj hb).mono fun e w' ⟨h1, h2⟩ => (show (∃ (wh : Bool) (k n tk tn : Int) (x y : Nat) (S : ByteArray) (a b sg : Int) (en : Bool) (at' nx : Int), e = Ending.returned (.agg (qtg wh k n tk tn x y S a b sg en at' nx)) ∧ QTokE s j e) ∧ Only [] w w' from ⟨qtokE_cells h1, h2⟩))
  have hg : (((((s[j]'hj).toNat : Nat) : Int) == 36) = true) ∨ (((((s[j]'hj).toNat : Nat) : Int) == 36) = false ∧ ((((s[j]'hj).toNat : Nat) : Int) == 58) = true) := by
    rcases hb with hb | hb
    · exact .inl (by rw [hb]; rfl)
    · exact .inr ⟨by rw [hb]; rfl, by rw [hb]; rfl⟩
  clear h hb
  have B0 := Lib.hid (Bk.made w 64 (qtz 0 false 0 0))
  have O0 := Lib.hid ((Only.refl [] w).alloc (.cells (qtz 0 false 0 0) 64))
  clear hs hi hn
  go_enter Tryz.func24, Tryz.ntmps24
  go_wp2_with fail
  (with_reducible refine (K.out _).mono ?_)
  rintro e1 w1 ⟨⟨e', rfl⟩, o1⟩
  have B1 := Lib.hid ((B0.out.only o1 (by simp)).alloc (.cells (tkB j e') 82))
  have O1 := Lib.hid ((O0.out.trans o1 (by simp)).alloc (.cells (tkB j e') 82))
  have D1 := Lib.hid (Bk.made w1 82 (tkB j e'))
  have L1 := (B0.out.only o1 (by simp)).lt
  clear o1
  obtain ⟨z0, z1, z2, z3, z4, z5, z6, z7, z8, z9, z10, z11, z12, z13, z14, z15⟩ := B1.out.sixteen
  have zf := B1.out.free
  obtain ⟨y0, y1, y2, y3, y4, y5, y6, y7, y8, y9, y10⟩ := D1.out.eleven
  rcases hg with g36 | ⟨g36, g58⟩
  all_goals
    go_wp2_with fail
    (with_reducible refine (HO.out _).mono ?_)
    rintro e2 w2 ⟨⟨wh, k, n, tk, tn, x, y, S, a, b, sg, en, at', nx, rfl, hq⟩, o2⟩
    have HQ := Lib.hid hq
    have C2 := Lib.hid (B1.out.only o2 (by simp))
    have P2 := Lib.hid (O1.out.trans o2 (by simp))
    have L2 := C2.out.lt
    clear o2 hq z0 z1 z2 z3 z4 z5 z6 z7 z8 z9 z10 z11 z12 z13 z14 z15 zf y0 y1 y2 y3 y4 y5 y6 y7 y8 y9 y10
    obtain ⟨z0, z1, z2, z3, z4, z5, z6, z7, z8, z9, z10, z11, z12, z13, z14, z15⟩ := C2.out.sixteen
    have zf := C2.out.free
    go_wp2_with (refine wpList_store_row (by rfl) _ _ _ (by rfl) w.heap.size (#[.bool wh, .int .i64 k, .int .i64 n, .int .i64 tk, .int .i64 tn, .complex .f64 x y, .string S, .int .i64 a, .int .i64 b, .slice none 0 0, .slice none 0 0, .slice none 0 0, .int .u8 sg, .bool en, .int .i64 at', .int .i64 nx]) (by rfl) (by rfl) 64 _ C2.out (by kernel_rfl) (by rfl) (by simp [Value.oneCell']) ?_)
    generalize hW : World.setRow _ _ _ = W7 at *
    obtain ⟨B7, O7⟩ := row_set C2.out hW
    clear hW z0 z1 z2 z3 z4 z5 z6 z7 z8 z9 z10 z11 z12 z13 z14 z15 zf
    have O8 := P2.out.trans O7 (fun b hb => .inr (by rw [List.mem_singleton.1 hb]; omega))
    exact res1 Tryz.results24 B7 (by rfl) (by rfl) Tryz.underlying64 (by kernel_rfl) rfl ⟨HQ.out, O8⟩
theorem tokenAt_any (s : ByteArray) (i : Nat) (w : World) (hs : s.size ≤ 262144) (hi : i ≤ s.size) :
    Calls Tryz.prog 24 #[.string s, .int .i64 i] w fun e w' => QTokE s (nxt s i) e ∧ Only [] w w' := by
  obtain ⟨j, hn⟩ : ∃ j, nxt s i = j := ⟨_, rfl⟩
  rw [hn]
  by_cases hj : j < s.size
  · have hat := lst_at hj
    by_cases hb : (s[j]'hj).toNat = 124 ∨ (s[j]'hj).toNat = 95 ∨ (s[j]'hj).toNat = 36 ∨ (s[j]'hj).toNat = 58
    · have ht := tk_own hat hb
      rcases hb with hb | hb | hb | hb
      · exact tokAt_bar s i j w hs hi hn hj ht hb
      · exact tokAt_any s i j w hs hi hn hj ht hb
      · exact tokAt_own s i j w hs hi hn hj ht (.inl hb)
      · exact tokAt_own s i j w hs hi hn hj ht (.inr hb)
    · obtain ⟨h1, h2, h3⟩ := qk_tk hat hb
      cases ht : tkAt s j with
      | sign b => exact tokAt_sign s i j w hs hi hn b hj ht (h1 b ht)
      | term t => exact tokAt_leaf s i j w hs hi hn t hj ht (h2 t ht).1 (h2 t ht).2
      | bad => exact tokAt_bad s i j w hs hi hn hj ht (h3 ht) (by omega)
  · exact tokAt_end s i j w hs hi hn hj

/-! ### What tokenAt tells, by what stands there -/
theorem tq_s (s : ByteArray) (i j : Nat) (b : UInt8) (D : Int) (w : World) (hs : s.size ≤ 262144) (hi : i ≤ s.size) (hD : D = (i : Int)) (hn : nxt s i = j) (hj : j < s.size) (h : qkAt s j = .sign b) :
    Calls Tryz.prog 24 #[.string s, .int .i64 D] w fun v w' => v = .returned (.agg (qtz b.toNat false j ((j : Int) + 1))) ∧ Only [] w w' := by
  subst hD hn
  refine (tokenAt_any s i w hs hi).mono fun v w' ⟨h1, h2⟩ => ⟨?_, h2⟩
  unfold QTokE at h1
  rw [if_pos hj, h] at h1
  exact h1
theorem tq_l (s : ByteArray) (i j : Nat) (p : QT) (D : Int) (w : World) (hs : s.size ≤ 262144) (hi : i ≤ s.size) (hD : D = (i : Int)) (hn : nxt s i = j) (hj : j < s.size) (h : qkAt s j = .leaf p) :
    Calls Tryz.prog 24 #[.string s, .int .i64 D] w fun v w' => v = .returned (.agg (qtok true p.k p.n p.t 0 false j (qfin s j : Nat))) ∧ Only [] w w' := by
  subst hD hn
  refine (tokenAt_any s i w hs hi).mono fun v w' ⟨h1, h2⟩ => ⟨?_, h2⟩
  unfold QTokE at h1
  rw [if_pos hj, h] at h1
  exact h1
/-- No whole one, and none of these signs. -/
theorem tq_x (s : ByteArray) (i j : Nat) (x y : Nat) (D : Int) (w : World) (hs : s.size ≤ 262144) (hi : i ≤ s.size) (hD : D = (i : Int)) (hn : nxt s i = j) (hx : x ≠ 0) (hy : y ≠ 0) (hxy : ∀ b, j < s.size → qkAt s j = .sign b → b.toNat ≠ x ∧ b.toNat ≠ y) (hl : ∀ t, j < s.size → qkAt s j ≠ .leaf t) :
    Calls Tryz.prog 24 #[.string s, .int .i64 D] w fun v w' => (∃ (sg : Int) (en : Bool) (nx : Int), v = .returned (.agg (qtz sg en j nx)) ∧ sg ≠ (x : Int) ∧ sg ≠ (y : Int)) ∧ Only [] w w' := by
  subst hD hn
  refine (tokenAt_any s i w hs hi).mono fun v w' ⟨h1, h2⟩ => ⟨?_, h2⟩
  unfold QTokE at h1
  split at h1
  · rename_i hj
    split at h1
    · rename_i b hb
      obtain ⟨h3, h4⟩ := hxy b hj hb
      exact ⟨_, _, _, h1, by omega, by omega⟩
    · rename_i t htk
      exact absurd htk (hl t hj)
    · obtain ⟨e', h1⟩ := h1
      exact ⟨_, _, _, h1, by omega, by omega⟩
  · have := nxt_le s hi
    have e : nxt s i = s.size := by omega
    rw [e]
    exact ⟨_, _, _, h1, by omega, by omega⟩
/-- None of these signs. -/
theorem tq_y (s : ByteArray) (i j : Nat) (x y z : Nat) (D : Int) (w : World) (hs : s.size ≤ 262144) (hi : i ≤ s.size) (hD : D = (i : Int)) (hn : nxt s i = j) (hx : x ≠ 0) (hy : y ≠ 0) (hz : z ≠ 0) (hxy : ∀ b, j < s.size → qkAt s j = .sign b → b.toNat ≠ x ∧ b.toNat ≠ y ∧ b.toNat ≠ z) :
    Calls Tryz.prog 24 #[.string s, .int .i64 D] w fun v w' => (∃ (wh : Bool) (k n : Int) (t : T) (sg : Int) (en : Bool) (nx : Int), v = .returned (.agg (qtok wh k n t sg en j nx)) ∧ sg ≠ (x : Int) ∧ sg ≠ (y : Int) ∧ sg ≠ (z : Int)) ∧ Only [] w w' := by
  subst hD hn
  refine (tokenAt_any s i w hs hi).mono fun v w' ⟨h1, h2⟩ => ⟨?_, h2⟩
  unfold QTokE at h1
  split at h1
  · rename_i hj
    split at h1
    · rename_i b hb
      obtain ⟨h3, h4, h5⟩ := hxy b hj hb
      exact ⟨_, _, _, .zero, _, _, _, h1, by omega, by omega, by omega⟩
    · exact ⟨_, _, _, _, _, _, _, h1, by omega, by omega, by omega⟩
    · obtain ⟨e', h1⟩ := h1
      exact ⟨_, _, _, .zero, _, _, _, h1, by omega, by omega, by omega⟩
  · have := nxt_le s hi
    have e : nxt s i = s.size := by omega
    rw [e]
    exact ⟨_, _, _, .zero, _, _, _, h1, by omega, by omega, by omega⟩
end Go.Proofs.YtlilfmpikampgaaGreatDoor
