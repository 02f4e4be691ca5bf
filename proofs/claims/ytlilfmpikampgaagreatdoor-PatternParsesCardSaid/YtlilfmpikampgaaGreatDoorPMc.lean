/- text: the width of a token, by the rune that it begins with. text: numbers, and terms of tokens. strings.LastIndexAny at "+-", of ASCII bytes. -/
import Derived.Test.YtlilfmpikampgaaGreatDoorPMb
import Derived.Shelf.Strings.IndexAny
import Derived.Lib.Builder
namespace Go.Proofs.YtlilfmpikampgaaGreatDoor
open Go.RowKit

/-- A rune that is read where a byte stands. -/
def RuneOf (b : UInt8) (r : Nat) : Prop := (b.toNat < 128 → r = b.toNat) ∧ (128 ≤ b.toNat → 128 ≤ r)
theorem runeOf_dec (s : ByteArray) {pos : Nat} (h : pos < s.size) : RuneOf (s[pos]'h) (Utf8.decode s pos).1 := by
  by_cases ha : (s[pos]'h).toNat < 128
  · rw [decode_ascii s pos h ha]
    exact ⟨fun _ => rfl, fun h => by omega⟩
  · exact ⟨fun h => absurd h ha, fun h2 => (decode_high s pos h h2).1⟩
theorem runeOf_p {b : UInt8} {r : Nat} (h : RuneOf b r) {p : UInt8 → Bool} {pR : Nat → Bool} (hp : ∀ b : UInt8, pR b.toNat = p b) (hh : ∀ r, 128 ≤ r → pR r = false) : pR r = p b := by
  by_cases ha : b.toNat < 128
  · rw [h.1 ha, hp]
  · rw [hh _ (h.2 (by omega)), ← hp, hh _ (by omega)]
theorem wid_sm {b : UInt8} {t : List UInt8} (h : isSm b = true) : wid (b :: t) = runOf isWd (b :: t) := by simp [wid, h]
theorem wid_num {b : UInt8} {t : List UInt8} (h : isSm b = false) (h2 : isDig b = true ∨ b.toNat = 45) : wid (b :: t) = numW (b :: t) := by
  unfold wid
  simp only [h]
  rw [if_neg (by simp), if_pos (by rcases h2 with h2 | h2 <;> simp [h2])]
theorem wid_rest {b : UInt8} {t : List UInt8} (h : isSm b = false) (h1 : isDig b = false) (h2 : b.toNat ≠ 45) : wid (b :: t) = if b.toNat = 60 then pidW (b :: t) else if b.toNat = 35 then 1 + runOf isDig t else 1 := by
  unfold wid
  simp only [h, h1]
  rw [if_neg (by simp), if_neg (by simp [h2])]
theorem run_word' (s : ByteArray) (k : Nat) (w : World) (hs : s.size ≤ 262144) (hk : runOf isWd (lst s) = k) : Calls Tryz.prog 116 #[.string s, .func (.func 117) #[] #[]] w fun e w' => e = .returned (.int .i64 k) ∧ Only [] w w' :=
  (run_word s w hs).mono fun _ _ ⟨he, ho⟩ => ⟨by rw [he, hk], ho⟩

set_option maxHeartbeats 1000000 in
theorem width_any (s : ByteArray) (b : UInt8) (t : List UInt8) (r : Nat) (w : World) (hs : s.size ≤ 262144) (hl : lst s = b :: t) (hr : RuneOf b r) :
    Calls Tryz.prog 97 #[.string s, .int .i32 r] w fun e w' => e = .returned (.int .i64 (wid (lst s))) ∧ Only [] w w' := by
  have hn : 1 ≤ s.size := by rw [← lst_len, hl]; simp
  have r1 : smR r = isSm b := runeOf_p hr (fun _ => rfl) (fun r h => by simp [smR]; omega)
  have r2 : digR r = isDig b := runeOf_p hr (fun _ => rfl) (fun r h => by simp [digR]; omega)
  have r3 : ∀ k, k < 128 → ((r = k) ↔ b.toNat = k) := fun k hk => by
    by_cases ha : b.toNat < 128
    · rw [hr.1 ha]
    · have := hr.2 (by omega)
      constructor <;> intro h <;> omega
  have HL := Lib.hid hl
  have R1 := Lib.hid r1
  have R2 := Lib.hid r2
  have R3 := Lib.hid r3
  clear hr r1 r2 r3 hl
  cases h1 : smR r with
  | true =>
    have e1 : isSm b = true := by rw [← R1.out]; exact h1
    have E := Lib.hid (wid_sm (t := t) e1)
    obtain ⟨k, hk⟩ : ∃ k, runOf isWd (lst s) = k := ⟨_, rfl⟩
    have HK := Lib.hid hk
    clear hk e1
    go_enter Tryz.func97, Tryz.ntmps97
    go_wp2_with fail
    (with_reducible refine (is_small _ _).mono ?_)
    rintro e w' ⟨rfl, rfl⟩
    go_wp2_with fail
    (with_reducible refine (run_word' s k _ hs HK.out).mono ?_)
    rintro e w1 ⟨rfl, o1⟩
    go_wp2_with fail
    go_ret
    exact ⟨ret_int (by rw [HL.out, E.out, ← HL.out, HK.out]), o1⟩
  | false =>
    have e1 : isSm b = false := by rw [← R1.out]; exact h1
    cases h2 : digR r with
    | true =>
      have e2 : isDig b = true := by rw [← R2.out]; exact h2
      have E := Lib.hid (wid_num (t := t) e1 (.inl e2))
      clear e1 e2
      go_enter Tryz.func97, Tryz.ntmps97
      go_wp2_with fail
      (with_reducible refine (is_small _ _).mono ?_)
      rintro e w' ⟨rfl, rfl⟩
      go_wp2_with fail
      (with_reducible refine (is_digit _ _).mono ?_)
      rintro e w' ⟨rfl, rfl⟩
      go_wp2_with fail
      (with_reducible refine (number_width s _ hs hn).mono ?_)
      rintro e w1 ⟨rfl, o1⟩
      go_wp2_with fail
      go_ret
      exact ⟨ret_int (by rw [HL.out, E.out]), o1⟩
    | false =>
      have e2 : isDig b = false := by rw [← R2.out]; exact h2
      have E1 := Lib.hid e1
      have E2 := Lib.hid e2
      clear e1 e2
      obtain ⟨k, hk⟩ : ∃ k, runOf isDig ((lst s).drop 1) = k := ⟨_, rfl⟩
      have hkl : k ≤ s.size - 1 := by rw [← hk, ← lst_len]; have := runOf_le isDig ((lst s).drop 1); simpa using this
      have HK := Lib.hid hk
      clear hk
      cases h45 : ((r : Int) == 45) with
      | true =>
        have e45 :  b.toNat = 45 := by
          have := (R3.out 45 (by decide))
          have h4 :  ((r : Int) = 45) := by simpa using h45
          omega
        have F45 := Lib.hid e45
        clear e45
        go_enter Tryz.func97, Tryz.ntmps97
        go_wp2_with fail
        (with_reducible refine (is_small _ _).mono ?_)
        rintro e w' ⟨rfl, rfl⟩
        go_wp2_with fail
        (with_reducible refine (is_digit _ _).mono ?_)
        rintro e w' ⟨rfl, rfl⟩
        go_wp2_with fail
        (with_reducible refine (number_width s _ hs hn).mono ?_)
        rintro e w1 ⟨rfl, o1⟩
        go_wp2_with fail
        go_ret
        exact ⟨ret_int (by rw [HL.out, wid_num E1.out (.inr F45.out)]), o1⟩
      | false =>
        have e45 : ¬ b.toNat = 45 := by
          have := (R3.out 45 (by decide))
          have h4 : ¬ ((r : Int) = 45) := by simpa using h45
          omega
        have F45 := Lib.hid e45
        clear e45
        cases h60 : ((r : Int) == 60) with
        | true =>
          have e60 :  b.toNat = 60 := by
            have := (R3.out 60 (by decide))
            have h4 :  ((r : Int) = 60) := by simpa using h60
            omega
          have F60 := Lib.hid e60
          clear e60
          go_enter Tryz.func97, Tryz.ntmps97
          go_wp2_with fail
          (with_reducible refine (is_small _ _).mono ?_)
          rintro e w' ⟨rfl, rfl⟩
          go_wp2_with fail
          (with_reducible refine (is_digit _ _).mono ?_)
          rintro e w' ⟨rfl, rfl⟩
          go_wp2_with fail
          (with_reducible refine (pid_width s _ hs hn).mono ?_)
          rintro e w1 ⟨rfl, o1⟩
          go_wp2_with fail
          go_ret
          exact ⟨ret_int (by rw [HL.out, wid_rest E1.out E2.out F45.out, if_pos F60.out]), o1⟩
        | false =>
          have e60 : ¬ b.toNat = 60 := by
            have := (R3.out 60 (by decide))
            have h4 : ¬ ((r : Int) = 60) := by simpa using h60
            omega
          have F60 := Lib.hid e60
          clear e60
          cases h35 : ((r : Int) == 35) with
          | true =>
            have e35 :  b.toNat = 35 := by
              have := (R3.out 35 (by decide))
              have h4 :  ((r : Int) = 35) := by simpa using h35
              omega
            have F35 := Lib.hid e35
            clear e35
            go_enter Tryz.func97, Tryz.ntmps97
            go_wp2_with fail
            (with_reducible refine (is_small _ _).mono ?_)
            rintro e w' ⟨rfl, rfl⟩
            go_wp2_with fail
            (with_reducible refine (is_digit _ _).mono ?_)
            rintro e w' ⟨rfl, rfl⟩
            go_wp2_with fail
            (with_reducible refine (run_dig_from s 1 k _ hs HK.out).mono ?_)
            rintro e w1 ⟨rfl, o1⟩
            go_wp2_with fail
            go_ret
            refine ⟨ret_int ?_, o1⟩
            have hk := HK.out
            rw [HL.out, List.drop_one, List.tail_cons] at hk
            rw [HL.out, wid_rest E1.out E2.out F45.out, if_neg F60.out, if_pos F35.out, hk]
            omega
          | false =>
            have e35 : ¬ b.toNat = 35 := by
              have := (R3.out 35 (by decide))
              have h4 : ¬ ((r : Int) = 35) := by simpa using h35
              omega
            have F35 := Lib.hid e35
            clear e35
            go_enter Tryz.func97, Tryz.ntmps97
            go_wp2_with fail
            (with_reducible refine (is_small _ _).mono ?_)
            rintro e w' ⟨rfl, rfl⟩
            go_wp2_with fail
            (with_reducible refine (is_digit _ _).mono ?_)
            rintro e w' ⟨rfl, rfl⟩
            go_wp2_with fail
            go_ret
            exact ⟨ret_int (by rw [HL.out, wid_rest E1.out E2.out F45.out, if_neg F60.out, if_neg F35.out]; rfl), Only.refl _ _⟩
end Go.Proofs.YtlilfmpikampgaaGreatDoor

namespace Go.Proofs.YtlilfmpikampgaaGreatDoor
open Go.RowKit

theorem lst_mk (l : List UInt8) : lst ⟨l.toArray⟩ = l := by simp [lst]
theorem number_yes (s : ByteArray) (v : Int) (w : World) (hs : s.size ≤ 262144) (hv : Vars w) (h : numP (lst s) = some v) : Calls Tryz.prog 133 #[.string s] w fun e w' => e = .returned (.tuple #[.int .i64 v, .bool true]) ∧ Only [] w w' := by
  have ⟨h1, hb1, hb2⟩ := numP_some h
  have h2 : Lib.atoiAll (lst s) = .ok v := by
    unfold numP at h
    split at h
    · rename_i u hu
      split at h
      · injection h with h; rw [← h]; exact hu
      · cases h
    · cases h
  have heq : (Lib.itoa v == s.toList) = true := by rw [toList_lst, h1]; simp
  have H2 := Lib.hid h2
  clear h h1 h2
  go_enter Tryz.func133, Tryz.ntmps133
  go_wp2_with fail
  (with_reducible refine (atoi_yes s v _ hs H2.out).mono ?_)
  rintro e w1 ⟨rfl, o1⟩
  have hv1 := hv.same o1
  go_wp2_with fail
  (with_reducible refine (itoa_any v _ hb1 hb2 hv1).mono ?_)
  rintro e w2 ⟨rfl, o2⟩
  go_wp2_with fail
  go_ret2
  exact ⟨rfl, o1.trans o2 (by simp)⟩
theorem number_no (s : ByteArray) (w : World) (hs : s.size ≤ 262144) (hv : Vars w) (h : numP (lst s) = none) : Calls Tryz.prog 133 #[.string s] w fun e w' => ∃ n, e = .returned (.tuple #[.int .i64 n, .bool false]) ∧ Only [] w w' := by
  by_cases h0 : ∃ v, Lib.atoiAll (lst s) = .ok v
  · obtain ⟨v, h2⟩ := h0
    obtain ⟨hb1, hb2⟩ := Lib.atoiAll_bounds h2
    have heq : (Lib.itoa v == s.toList) = false := by
      rw [toList_lst]
      simp only [beq_eq_false_iff_ne]
      intro e
      unfold numP at h
      rw [h2] at h
      simp only [e, if_true] at h
      cases h
    have H2 := Lib.hid h2
    clear h h2
    go_enter Tryz.func133, Tryz.ntmps133
    go_wp2_with fail
    (with_reducible refine (atoi_yes s v _ hs H2.out).mono ?_)
    rintro e w1 ⟨rfl, o1⟩
    have hv1 := hv.same o1
    go_wp2_with fail
    (with_reducible refine (itoa_any v _ hb1 hb2 hv1).mono ?_)
    rintro e w2 ⟨rfl, o2⟩
    go_wp2_with fail
    go_ret2
    exact ⟨_, rfl, o1.trans o2 (by simp)⟩
  · have h3 : ∀ v, Lib.atoiAll (lst s) ≠ .ok v := fun v hv => h0 ⟨v, hv⟩
    have H3 := Lib.hid h3
    clear h h0 h3
    go_enter Tryz.func133, Tryz.ntmps133
    go_wp2_with fail
    (with_reducible refine (atoi_no s _ hs H3.out hv).mono ?_)
    rintro e w1 ⟨n, t, p, rfl, o1⟩
    go_wp2_with fail
    go_ret2
    exact ⟨_, rfl, o1⟩
end Go.Proofs.YtlilfmpikampgaaGreatDoor

namespace Go.Proofs.YtlilfmpikampgaaGreatDoor
open Go.RowKit Go.Shelf

theorem pm_contains (x : UInt8) : ([43, 45] : List UInt8).contains x = isPM x := by
  rw [Bool.eq_iff_iff]
  simp only [isPM, List.contains_iff_mem, List.mem_cons, List.mem_nil_iff, or_false, Bool.or_eq_true, decide_eq_true_eq]
  constructor
  · rintro (rfl | rfl) <;> decide
  · rintro (h | h)
    · exact .inl (UInt8.toNat_inj.1 h)
    · exact .inr (UInt8.toNat_inj.1 h)
theorem pm_index (x : UInt8) : decide ((0 : Int) ≤ Lib.indexByte [43, 45] x) = isPM x := by
  rw [← pm_contains]
  exact (Lib.contains_iff_indexByte [43, 45] x).symm
set_option maxRecDepth 100000 in
theorem dlast_any (z : ByteArray) (w : World) (hs : z.size ≤ 262144) (h1 : 1 ≤ z.size) (hlt : z.size - 1 < z.size) (b : UInt8) (hb : z[z.size - 1]'hlt = b) (ha : b.toNat < 128) :
    Calls Tryz.prog 156 #[.string z] w fun e w' => e = .returned (.tuple #[.int .i32 b.toNat, .int .i64 1]) ∧ w = w' := by
  have hne : ((z.size : Int) == 0) = false := beq_eq_false_iff_ne.2 (by omega)
  have hi : (0 : Int) ≤ (z.size : Int) - 1 := by omega
  have hi2 : ((z.size : Int) - 1).toNat = z.size - 1 := by omega
  have hw : wrap32 ((z[z.size - 1]'hlt).toNat : Int) = (b.toNat : Int) := by rw [hb]; exact IntWalk.wrap32_in _ (by omega)
  clear hb
  go_enter Tryz.func156, Tryz.ntmps156
  go_wp2_with fail
  go_ret2
  refine ⟨?_, rfl⟩
  show Ending.returned (.tuple #[.int .i32 (wrap32 _), .int .i64 1]) = _
  rw [hw]
theorem use_set (n : Int) (r : Bool) (w : World) (h : decide ((8 : Int) < n) = r) : Calls Tryz.prog 153 #[.int .i64 n] w fun e w' => e = .returned (.bool r) ∧ w = w' :=
  (Tryz.strings_shouldUseASCIISet n w).mono fun _ _ ⟨he, hw⟩ => ⟨by rw [he, h], hw.symm⟩
theorem set_has (b : Nat) (x : UInt8) (v : Bool) (w : World) (hc : w.cell? ⟨b, x.toNat, none⟩ = some (.bool v)) : Calls Tryz.prog 155 #[.pointer (some ⟨b, 0, none⟩), .int .u8 x.toNat] w fun e w' => e = .returned (.bool v) ∧ w = w' :=
  (Tryz.asciiSet_contains b x v w hc).mono fun _ _ ⟨he, hw⟩ => ⟨he, hw.symm⟩
theorem rune_at (x : UInt8) (hx : x.toNat < 128) (w : World) : Calls Tryz.prog 152 #[.string ⟨#[43, 45]⟩, .int .i32 (x.toNat : Int)] w fun e w' => e = .returned (.int .i64 (Lib.indexByte [43, 45] x)) ∧ w = w' := by
  have hnat : ((x.toNat : Int)).toNat.toUInt8 = x := by simp
  have := Tryz.strings_IndexRune_ascii ⟨#[43, 45]⟩ (x.toNat : Int) w (by omega) (by omega)
  rw [hnat] at this
  exact this.mono fun _ _ ⟨he, hw⟩ => ⟨he, hw.symm⟩
set_option maxHeartbeats 8000000 in
set_option maxRecDepth 1000000 in
theorem last_long (s : ByteArray) (w : World) (p : Nat) (h8 : 8 < s.size) (hs : s.size ≤ 262144) (hp : p < s.size) (hpm : isPM (s[p]'hp) = true) (hno : ∀ j (hj : j < s.size), p < j → isPM (s[j]'hj) = false) :
    Calls Tryz.prog 143 #[.string s, .string ⟨#[43, 45]⟩] w fun e w' => e = .returned (.int .i64 p) ∧ Only [] w w' := by
  have hz108 : ∀ w, (zeroValue 170).run Tryz.prog w = .ok (.agg (Array.replicate 256 (.bool false))) w := fun w => by kernel_rfl
  have hM := Tryz.strings_makeASCIISet hz108 ⟨#[43, 45]⟩ w (by decide) (fun j b hb => by
    have : b = 43 ∨ b = 45 := by
      have h : ([43, 45] : List UInt8)[j]? = some b := hb
      have := List.mem_of_getElem? h
      simpa using this
    rcases this with rfl | rfl <;> decide)
  have h8z : decide ((8 : Int) < (s.size : Int)) = true := decide_eq_true (by omega)
  have h1z : ((s.size : Int) == 1) = false := by simp; omega
  have e0 : (lst ⟨#[43, 45]⟩) = [43, 45] := rfl
  obtain ⟨S, hS⟩ : ∃ S, Lib.setCells (ByteArray.mk #[43, 45]).data.toList = S := ⟨_, rfl⟩
  have hsz : S.size = 256 := by rw [← hS]; exact Lib.setCells_size _
  have hone : S.all (·.oneCell') = true := by rw [← hS]; exact Lib.setCells_one _
  have hat : ∀ x : UInt8, S[x.toNat]? = some (.bool (isPM x)) := fun x => by rw [← hS, Lib.setCells_at]; congr 2; exact pm_contains x
  rw [hS] at hM
  have hsc : (storeCells ⟨w.heap.size + 1, 0, none⟩ S.toList 0).run Tryz.prog ((w.alloc (.cells S 170)).alloc (.cells (Array.replicate 256 (.bool false)) 170)) = .ok () ((w.alloc (.cells S 170)).alloc (.cells S 170)) := by
    have := run_storeCells_new (P := Tryz.prog) (w.alloc (.cells S 170)) 170 (Array.replicate 256 (.bool false)) S (by rw [hsz]; kernel_rfl) (by rw [hsz, Array.size_replicate]) hone
    simpa using this
  have HC := Lib.hid (show ∀ x : UInt8, ((w.alloc (.cells S 170)).alloc (.cells S 170)).cell? ⟨w.heap.size + 1, x.toNat, none⟩ = some (.bool (isPM x)) from fun x => by
    rw [World.cell?_alloc_at _ _ _ _ (by simp), hat])
  have HPM := Lib.hid hpm
  have HNO := Lib.hid hno
  have HM := Lib.hid hM
  clear hpm hno hM hat hS hone
  go_enter Tryz.func143, Tryz.ntmps143
  go_wp2_with fail
  (with_reducible refine (use_set _ _ _ h8z).mono ?_)
  rintro e w' ⟨rfl, rfl⟩
  go_wp2_with fail
  (with_reducible refine (HM.out).mono ?_)
  rintro e w' ⟨rfl, hw⟩
  rw [hw]
  clear hw w'
  go_wp2_with fail
  go_loopw [8] (fun iv wr => ∃ i : Nat, iv = .int .i64 i ∧ p ≤ i ∧ i < s.size ∧ wr = ((w.alloc (.cells S 170)).alloc (.cells S 170))) (fun iv _ => (intOf iv).toNat)
  case atStart => exact ⟨s.size - 1, by first | go_num | (congr 1; omega), by omega, by omega, rfl⟩
  case round =>
    obtain ⟨i, rfl, hpi, his, rfl⟩ := hrel
    have hcx := HC.out (s[i]'his)
    by_cases hpe : p = i
    · subst hpe
      rw [HPM.out] at hcx
      have HX := Lib.hid hcx
      clear hcx
      go_wp2_with fail
      (with_reducible refine (set_has _ _ _ _ HX.out).mono ?_)
      rintro e w' ⟨rfl, rfl⟩
      go_wp2_with fail
      go_ret
      exact ⟨rfl, ((Only.refl _ _).alloc _).alloc _⟩
    · rw [HNO.out i his (by omega)] at hcx
      have HX := Lib.hid hcx
      have hi1 : 1 ≤ i := by omega
      clear hcx
      go_wp2_with fail
      (with_reducible refine (set_has _ _ _ _ HX.out).mono ?_)
      rintro e w' ⟨rfl, rfl⟩
      go_wp2_with fail
      go_roundw
      case rel => exact ⟨i - 1, by first | go_num | (congr 1; omega), by omega, by omega, by first | rfl | trivial⟩
      case measure => simp [intOf]; omega
set_option maxHeartbeats 8000000 in
set_option maxRecDepth 100000 in
theorem last_short (s : ByteArray) (w : World) (p : Nat) (h8 : s.size ≤ 8) (h2 : 2 ≤ s.size) (hp : p < s.size) (hpm : isPM (s[p]'hp) = true) (hno : ∀ j (hj : j < s.size), p < j → isPM (s[j]'hj) = false) (hasc : ∀ j (hj : j < s.size), (s[j]'hj).toNat < 128) :
    Calls Tryz.prog 143 #[.string s, .string ⟨#[43, 45]⟩] w fun e w' => e = .returned (.int .i64 p) ∧ Only [] w w' := by
  have h8z : decide ((8 : Int) < (s.size : Int)) = false := decide_eq_false (by omega)
  have h1z : ((s.size : Int) == 1) = false := by simp; omega
  have HPM := Lib.hid hpm
  have HNO := Lib.hid hno
  have HAS := Lib.hid hasc
  clear hpm hno hasc
  go_enter Tryz.func143, Tryz.ntmps143
  go_wp2_with fail
  (with_reducible refine (use_set _ _ _ h8z).mono ?_)
  rintro e w' ⟨rfl, rfl⟩
  go_wp2_with fail
  go_loop [13] (fun iv => ∃ i : Nat, iv = .int .i64 i ∧ p < i ∧ i ≤ s.size) (fun iv => (intOf iv).toNat)
  case atStart => exact ⟨s.size, rfl, hp, Nat.le_refl _⟩
  case round =>
    obtain ⟨i, rfl, hpi, his⟩ := hrel
    have hi1 : 1 ≤ i := by omega
    have hix : i - 1 < s.size := by omega
    have hzs : (s.extract 0 i).size = i := by rw [← lst_len, lst_to, List.length_take, lst_len]; omega
    have hzl : (s.extract 0 i).size - 1 < (s.extract 0 i).size := by omega
    have hzb : (s.extract 0 i)[(s.extract 0 i).size - 1]'hzl = s[i - 1]'hix := by
      have h3 : (lst (s.extract 0 i))[(s.extract 0 i).size - 1]? = some (s[i - 1]'hix) := by rw [hzs, lst_to, List.getElem?_take, if_pos (by omega), lst_at hix]
      rw [lst_at hzl] at h3
      injection h3
    have hasb := HAS.out (i - 1) hix
    have D := Lib.hid (fun w => dlast_any (s.extract 0 i) w (by omega) (by omega) hzl _ hzb hasb)
    have hpx := pm_index (s[i - 1]'hix)
    have I2 := Lib.hid (fun w => rune_at (s[i - 1]'hix) hasb w)
    have hbig : Lib.indexByte [43, 45] (s[i - 1]'hix) ≤ 2 ∧ -1 ≤ Lib.indexByte [43, 45] (s[i - 1]'hix) := by simp only [Lib.indexByte]; split <;> (first | omega | (split <;> (first | omega | (split <;> omega)))) <;> (try split) <;> omega
    clear hzb hzs
    by_cases hpe : p = i - 1
    · have hq : isPM (s[i - 1]'hix) = true := by have := HPM.out; simp only [← hpe]; exact this
      rw [hq] at hpx
      have hge : (0 : Int) ≤ Lib.indexByte [43, 45] (s[i - 1]'hix) := of_decide_eq_true hpx
      clear hpx hq
      generalize Lib.indexByte [43, 45] (s[i - 1]'hix) = v at I2 hge hbig
      generalize s[i - 1]'hix = b at I2 D hasb
      go_wp2_with fail
      (with_reducible refine (D.out _).mono ?_)
      rintro e w' ⟨rfl, rfl⟩
      go_wp2_with fail
      (with_reducible refine (I2.out _).mono ?_)
      rintro e w' ⟨rfl, rfl⟩
      go_wp2_with fail
      go_ret
      exact ⟨ret_int (by omega), Only.refl _ _⟩
    · have hq : isPM (s[i - 1]'hix) = false := HNO.out (i - 1) hix (by omega)
      rw [hq] at hpx
      have hge : ¬ (0 : Int) ≤ Lib.indexByte [43, 45] (s[i - 1]'hix) := of_decide_eq_false hpx
      clear hpx hq
      generalize Lib.indexByte [43, 45] (s[i - 1]'hix) = v at I2 hge hbig
      generalize s[i - 1]'hix = b at I2 D hasb
      go_wp2_with fail
      (with_reducible refine (D.out _).mono ?_)
      rintro e w' ⟨rfl, rfl⟩
      go_wp2_with fail
      (with_reducible refine (I2.out _).mono ?_)
      rintro e w' ⟨rfl, rfl⟩
      go_wp2_with fail
      go_round
      case rel => exact ⟨i - 1, by first | go_num | (congr 1; omega), by omega, by omega⟩
      case measure => simp [intOf]; omega
end Go.Proofs.YtlilfmpikampgaaGreatDoor
