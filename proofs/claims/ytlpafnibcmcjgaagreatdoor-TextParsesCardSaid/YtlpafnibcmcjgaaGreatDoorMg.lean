/- text: the term that a token is by itself, ahead of whether it may be. text: pids and complex numbers of their tokens, ahead of whether they may be. -/
import Derived.Test.YtlpafnibcmcjgaaGreatDoorMc
import Derived.Test.YtlpafnibcmcjgaaGreatDoorMf
namespace Go.Proofs.YtlpafnibcmcjgaaGreatDoor
open Go.RowKit

/-- What a word says. -/
def rawW (s : ByteArray) : T := if lst s = [110, 105, 108] then .nil else if lst s = [116, 114, 117, 101] then .bool true else if lst s = [102, 97, 108, 115, 101] then .bool false else .atom s
theorem Only.set7 {w w1 : World} {b : Nat} {v0 v1 v2 v3 v4 v5 v6 : Value} (h : Only [] w w1) (hb : w.heap.size ≤ b) :
    Only [] w (((((((w1.setCell ⟨b, 0, none⟩ v0).setCell ⟨b, 1, none⟩ v1).setCell ⟨b, 2, none⟩ v2).setCell ⟨b, 3, none⟩ v3).setCell ⟨b, 4, none⟩ v4).setCell ⟨b, 5, none⟩ v5).setCell ⟨b, 6, none⟩ v6) :=
  ((((((h.set (.inr hb) _).set (.inr hb) _).set (.inr hb) _).set (.inr hb) _).set (.inr hb) _).set (.inr hb) _).set (.inr hb) _
abbrev Z7 : Array Value := tcs 0 0 0 0 ⟨#[]⟩ 0 0 (.slice none 0 0)
set_option maxHeartbeats 2000000 in
theorem word_term (s : ByteArray) (w : World) (hs : s.size ≤ 262144) : Calls Tryz.prog 90 #[.string s] w fun e w' => e = .returned (.agg ((rawW s).cs (.slice none 0 0))) ∧ Only [] w w' := by
  have rs := store_com
  by_cases h1 : lst s = [110, 105, 108]
  · have e1 : (s.toList == [110, 105, 108]) = true := by rw [eq_list]; simp [h1]
    have R : Hid (rawW s = .nil) := Lib.hid (by unfold rawW; rw [if_pos h1])
    clear h1
    go_enter Tryz.func90, Tryz.ntmps90
    go_wp2_with fail
    refine bodyPost_ret (v := .agg (tcs 1 0 0 0 ⟨#[]⟩ 0 0 (.slice none 0 0))) (by simp [results, Tryz.results90, go_sem]) rfl ⟨by rw [R.out]; rfl, ?_⟩
    exact (Only.refl _ _).alloc _
  have e1 : (s.toList == [110, 105, 108]) = false := by rw [eq_list]; simp [h1]
  by_cases h2 : lst s = [116, 114, 117, 101]
  · have e2 : (s.toList == [116, 114, 117, 101]) = true := by rw [eq_list]; simp [h2]
    have R : Hid (rawW s = .bool true) := Lib.hid (by unfold rawW; rw [if_neg h1, if_pos h2])
    clear h1 h2
    go_enter Tryz.func90, Tryz.ntmps90
    go_wp2_with fail
    refine bodyPost_ret (v := .agg (tcs 2 1 0 0 ⟨#[]⟩ 0 0 (.slice none 0 0))) (by simp [results, Tryz.results90, go_sem]) rfl ⟨by rw [R.out]; rfl, ?_⟩
    exact (Only.refl _ _).alloc _
  have e2 : (s.toList == [116, 114, 117, 101]) = false := by rw [eq_list]; simp [h2]
  by_cases h3 : lst s = [102, 97, 108, 115, 101]
  · have e3 : (s.toList == [102, 97, 108, 115, 101]) = true := by rw [eq_list]; simp [h3]
    have R : Hid (rawW s = .bool false) := Lib.hid (by unfold rawW; rw [if_neg h1, if_neg h2, if_pos h3])
    clear h1 h2 h3
    go_enter Tryz.func90, Tryz.ntmps90
    go_wp2_with fail
    refine bodyPost_ret (v := .agg (tcs 2 0 0 0 ⟨#[]⟩ 0 0 (.slice none 0 0))) (by simp [results, Tryz.results90, go_sem]) rfl ⟨by rw [R.out]; rfl, ?_⟩
    exact (Only.refl _ _).alloc _
  have e3 : (s.toList == [102, 97, 108, 115, 101]) = false := by rw [eq_list]; simp [h3]
  have R : Hid (rawW s = .atom s) := Lib.hid (by unfold rawW; rw [if_neg h1, if_neg h2, if_neg h3])
  clear h1 h2 h3
  have HZ := Lib.hid (Bk.made w 27 Z7)
  go_enter Tryz.func90, Tryz.ntmps90
  go_wp2_with fail
  (with_reducible refine (clone_any s _ hs).mono ?_)
  rintro e w1 ⟨rfl, o1⟩
  have O1 := Lib.hid (((Only.refl [] w).alloc (.cells Z7 27)).trans o1 (by simp))
  have HZ1 := Lib.hid (HZ.out.only o1 (by simp))
  obtain ⟨z0, z1, z2, z3, z4, z5, z6⟩ := HZ1.out.seven
  have zf := HZ1.out.free
  clear o1
  go_wp2_with fail
  refine bodyPost_ret (v := .agg (tcs 5 0 0 0 s 0 0 (.slice none 0 0))) (by simp [results, Tryz.results90, go_sem, z0, z1, z2, z3, z4, z5, z6]) rfl ⟨by rw [R.out]; rfl, ?_⟩
  exact O1.out.set7 (by omega)

theorem is_bounded (n : Int) (w : World) : Calls Tryz.prog 152 #[.int .i64 n] w fun e w' => e = .returned (.bool (okPart n)) ∧ w = w' := by
  go_enter Tryz.func152, Tryz.ntmps152
  go_wp2_with fail
  all_goals
    go_ret
    exact ⟨ret_bool (by rw [Bool.eq_iff_iff]; simp [okPart]; omega), rfl⟩
set_option maxHeartbeats 2000000 in
theorem complex_yes (a b : Int) (w : World) (ha : okPart a = true) (hb : okPart b = true) :
    Calls Tryz.prog 125 #[.int .i64 a, .int .i64 b] w fun e w' => e = .returned (.tuple #[.agg ((T.com a b).cs (.slice none 0 0)), .int .i64 0]) ∧ Only [] w w' := by
  have HA := Lib.hid (fun w => is_bounded a w)
  have HB := Lib.hid (fun w => is_bounded b w)
  rw [ha] at HA
  rw [hb] at HB
  clear ha hb
  have rs := store_com
  go_enter Tryz.func125, Tryz.ntmps125
  go_wp2_with fail
  (with_reducible refine (HA.out _).mono ?_)
  rintro e w' ⟨rfl, rfl⟩
  go_wp2_with fail
  (with_reducible refine (HB.out _).mono ?_)
  rintro e w' ⟨rfl, rfl⟩
  go_wp2_with fail
  refine bodyPost_ret (v := .tuple #[.agg (tcs 4 0 (floatOfInt .f64 a) (floatOfInt .f64 b) ⟨#[]⟩ 0 0 (.slice none 0 0)), .int .i64 0]) (by simp [results, Tryz.results125, go_sem]) rfl ⟨rfl, ?_⟩
  exact ((Only.refl _ _).alloc _)
set_option maxHeartbeats 2000000 in
theorem complex_no (a b : Int) (w : World) (h : (okPart a && okPart b) = false) :
    Calls Tryz.prog 125 #[.int .i64 a, .int .i64 b] w fun e w' => e = .returned (.tuple #[.agg Z7, .int .i64 31]) ∧ Only [] w w' := by
  have rs := store_com
  have HA := Lib.hid (fun w => is_bounded a w)
  have HB := Lib.hid (fun w => is_bounded b w)
  rcases bt (okPart a) with ha | ha
  · have hb : okPart b = false := by rw [ha] at h; simpa using h
    rw [ha] at HA
    rw [hb] at HB
    clear ha hb h
    go_enter Tryz.func125, Tryz.ntmps125
    go_wp2_with fail
    (with_reducible refine (HA.out _).mono ?_)
    rintro e w' ⟨rfl, rfl⟩
    go_wp2_with fail
    (with_reducible refine (HB.out _).mono ?_)
    rintro e w' ⟨rfl, rfl⟩
    go_wp2_with fail
    refine bodyPost_ret (v := .tuple #[.agg Z7, .int .i64 31]) (by simp [results, Tryz.results125, go_sem]) rfl ⟨rfl, ?_⟩
    exact ((Only.refl _ _).alloc _)
  · rw [ha] at HA
    clear ha h
    go_enter Tryz.func125, Tryz.ntmps125
    go_wp2_with fail
    (with_reducible refine (HA.out _).mono ?_)
    rintro e w' ⟨rfl, rfl⟩
    go_wp2_with fail
    refine bodyPost_ret (v := .tuple #[.agg Z7, .int .i64 31]) (by simp [results, Tryz.results125, go_sem]) rfl ⟨rfl, ?_⟩
    exact ((Only.refl _ _).alloc _)
end Go.Proofs.YtlpafnibcmcjgaaGreatDoor

namespace Go.Proofs.YtlpafnibcmcjgaaGreatDoor
open Go.RowKit

theorem number_any (s : ByteArray) (w : World) (hs : s.size ≤ 262144) (hv : Vars w) : Calls Tryz.prog 92 #[.string s] w fun e w' => ∃ (n : Int) (b : Bool), e = .returned (.tuple #[.int .i64 n, .bool b]) ∧ Only [] w w' ∧ (∀ v, numP (lst s) = some v → n = v ∧ b = true) ∧ (numP (lst s) = none → b = false) := by
  cases h : numP (lst s) with
  | some v => exact (number_yes s v w hs hv h).mono fun _ _ ⟨he, ho⟩ => ⟨v, true, he, ho, fun u hu => (by injection hu with hu; exact ⟨hu, rfl⟩), fun e => (by cases e)⟩
  | none => exact (number_no s w hs hv h).mono fun _ _ ⟨n, he, ho⟩ => ⟨n, false, he, ho, fun u hu => (by cases hu), fun _ => rfl⟩
theorem trimS_to (s p z : ByteArray) (w : World) (hs : s.size ≤ 262144) (hz : (⟨(Lib.trimSuffix (lst s) (lst p)).toArray⟩ : ByteArray) = z) :
    Calls Tryz.prog 120 #[.string s, .string p] w fun e w' => e = .returned (.string z) ∧ w = w' := by
  subst hz
  exact trimS_any s p w hs
theorem trimP_to (s p z : ByteArray) (w : World) (hz : (⟨(Lib.trimPrefix (lst s) (lst p)).toArray⟩ : ByteArray) = z) :
    Calls Tryz.prog 124 #[.string s, .string p] w fun e w' => e = .returned (.string z) ∧ w = w' := by
  subst hz
  exact trimP_any s p w
theorem cut_to (s sep z1 z2 : ByteArray) (b : Bool) (w : World) (hs : s.size ≤ 262144) (hv : Vars w) (h1 : (⟨(Lib.cut (lst s) (lst sep)).1.toArray⟩ : ByteArray) = z1) (h2 : (⟨(Lib.cut (lst s) (lst sep)).2.1.toArray⟩ : ByteArray) = z2) (h3 : (Lib.cut (lst s) (lst sep)).2.2 = b) :
    Calls Tryz.prog 119 #[.string s, .string sep] w fun e w' => e = .returned (.tuple #[.string z1, .string z2, .bool b]) ∧ Only [] w w' := by
  subst h1 h2 h3
  exact cut_any s sep w hs hv
theorem size_lst {s : ByteArray} {n : Nat} (h : (lst s).length ≤ n) : s.size ≤ n := by rw [← lst_len]; exact h
theorem trimS_le (l p : List UInt8) : (Lib.trimSuffix l p).length ≤ l.length := by
  unfold Lib.trimSuffix
  split
  · rw [List.length_take]; omega
  · exact Nat.le_refl _
theorem trimP_le (l p : List UInt8) : (Lib.trimPrefix l p).length ≤ l.length := by
  unfold Lib.trimPrefix
  split
  · rw [List.length_drop]; omega
  · exact Nat.le_refl _
theorem cut_le (l p : List UInt8) : (Lib.cut l p).1.length ≤ l.length ∧ (Lib.cut l p).2.1.length ≤ l.length := by
  unfold Lib.cut
  split
  · simp only [List.length_take, List.length_drop]; omega
  · simp

/-- What a function answers that reads a token: a term, if it is one. -/
def Means (o : Option T) (e : Ending) : Prop := ∃ (k n : Int) (x y : Nat) (S : ByteArray) (a b : Int) (ok : Bool), e = .returned (.tuple #[.agg (tcs k n x y S a b (.slice none 0 0)), .bool ok]) ∧ (∀ t, o = some t → ok = true ∧ tcs k n x y S a b (.slice none 0 0) = t.cs (.slice none 0 0)) ∧ (o = none → ok = false)

/-- What a pid's token says. -/
def rawP (l : List UInt8) : Option T :=
  match numP (Lib.cut (Lib.trimSuffix l [62]) [46]).1, numP (Lib.cut (Lib.trimSuffix l [62]) [46]).2.1 with
  | some n, some g => some (.pid n g)
  | _, _ => none
set_option maxHeartbeats 2000000 in
theorem pid_term (s : ByteArray) (w : World) (hs : s.size ≤ 262144) (h1 : 1 ≤ s.size) (hv : Vars w) : Calls Tryz.prog 91 #[.string s] w fun e w' => Means (rawP ((lst s).drop 1)) e ∧ Only [] w w' := by
  obtain ⟨z, hz⟩ : ∃ z, (⟨(Lib.trimSuffix (lst (s.extract 1 s.size)) (lst ⟨#[62]⟩)).toArray⟩ : ByteArray) = z := ⟨_, rfl⟩
  have hzl : lst z = Lib.trimSuffix ((lst s).drop 1) [62] := by rw [← hz, lst_mk, lst_from]; rfl
  have hzs : z.size ≤ 262144 := size_lst (by rw [hzl]; refine Nat.le_trans (trimS_le _ _) ?_; rw [List.length_drop, lst_len]; omega)
  obtain ⟨z1, hz1⟩ : ∃ z1, (⟨(Lib.cut (lst z) (lst ⟨#[46]⟩)).1.toArray⟩ : ByteArray) = z1 := ⟨_, rfl⟩
  obtain ⟨z2, hz2⟩ : ∃ z2, (⟨(Lib.cut (lst z) (lst ⟨#[46]⟩)).2.1.toArray⟩ : ByteArray) = z2 := ⟨_, rfl⟩
  obtain ⟨b3, hb3⟩ : ∃ b3, (Lib.cut (lst z) (lst ⟨#[46]⟩)).2.2 = b3 := ⟨_, rfl⟩
  have hl1 : lst z1 = (Lib.cut (Lib.trimSuffix ((lst s).drop 1) [62]) [46]).1 := by rw [← hz1, lst_mk, hzl]; rfl
  have hl2 : lst z2 = (Lib.cut (Lib.trimSuffix ((lst s).drop 1) [62]) [46]).2.1 := by rw [← hz2, lst_mk, hzl]; rfl
  have hs1 : z1.size ≤ 262144 := size_lst (by rw [hl1, ← hzl]; exact Nat.le_trans (cut_le _ _).1 (by rw [lst_len]; exact hzs))
  have hs2 : z2.size ≤ 262144 := size_lst (by rw [hl2, ← hzl]; exact Nat.le_trans (cut_le _ _).2 (by rw [lst_len]; exact hzs))
  have HZ := Lib.hid hz
  have HZ1 := Lib.hid hz1
  have HZ2 := Lib.hid hz2
  have HB3 := Lib.hid hb3
  have HR := Lib.hid (show rawP ((lst s).drop 1) = match numP (lst z1), numP (lst z2) with | some n, some g => some (T.pid n g) | _, _ => none by unfold rawP; rw [hl1, hl2])
  have HB := Lib.hid (Bk.made w 27 Z7)
  have rs := store_com
  have hes : (s.extract 1 s.size).size ≤ 262144 := by rw [ext_size]; omega
  clear hz hz1 hz2 hb3 hzl hl1 hl2
  go_enter Tryz.func91, Tryz.ntmps91
  go_wp2_with fail
  (with_reducible refine (trimS_to _ _ _ _ hes HZ.out).mono ?_)
  rintro e w' ⟨rfl, rfl⟩
  go_wp2_with fail
  (with_reducible refine (cut_to _ _ _ _ _ _ hzs (hv.alloc _) HZ1.out HZ2.out HB3.out).mono ?_)
  rintro e w1 ⟨rfl, o1⟩
  have O1 := Lib.hid (((Only.refl [] w).alloc (.cells Z7 27)).trans o1 (by simp))
  have B1 := Lib.hid (HB.out.only o1 (by simp))
  have hv1 := hv.same O1.out
  clear o1
  go_wp2_with fail
  (with_reducible refine (number_any z1 _ hs1 hv1).mono ?_)
  rintro e w2 ⟨n1, b1, rfl, o2, hy1, hn1⟩
  have O2 := Lib.hid (O1.out.trans o2 (by simp))
  have B2 := Lib.hid (B1.out.only o2 (by simp))
  have hv2 := hv1.same o2
  have Y1 := Lib.hid hy1
  have N1 := Lib.hid hn1
  clear o2 hy1 hn1 hv1
  go_wp2_with fail
  (with_reducible refine (number_any z2 _ hs2 hv2).mono ?_)
  rintro e w3 ⟨n2, b2, rfl, o3, hy2, hn2⟩
  have O3 := Lib.hid (O2.out.trans o3 (by simp))
  have B3 := Lib.hid (B2.out.only o3 (by simp))
  have Y2 := Lib.hid hy2
  have N2 := Lib.hid hn2
  obtain ⟨z0', z1', z2', z3', z4', z5', z6'⟩ := B3.out.seven
  have zf := B3.out.free
  clear o3 hy2 hn2 hv2 hv
  have fin : ∀ ok : Bool, ok = (b1 && b2) → Means (rawP ((lst s).drop 1)) (.returned (.tuple #[.agg (tcs 6 0 0 0 ⟨#[]⟩ n1 n2 (.slice none 0 0)), .bool ok])) := by
    intro ok hok
    refine ⟨_, _, _, _, _, _, _, _, rfl, ?_, ?_⟩
    · intro t ht
      rw [HR.out] at ht
      cases h1 : numP (lst z1) with
      | none => rw [h1] at ht; cases ht
      | some v1 =>
        cases h2 : numP (lst z2) with
        | none => rw [h1, h2] at ht; cases ht
        | some v2 =>
          rw [h1, h2] at ht
          injection ht with ht
          subst ht
          obtain ⟨rfl, rfl⟩ := Y1.out v1 h1
          obtain ⟨rfl, rfl⟩ := Y2.out v2 h2
          exact ⟨hok, rfl⟩
    · intro ht
      rw [HR.out] at ht
      rw [hok]
      cases h1 : numP (lst z1) with
      | none => rw [N1.out h1]; rfl
      | some v1 =>
        cases h2 : numP (lst z2) with
        | none => rw [N2.out h2]; simp
        | some v2 => rw [h1, h2] at ht; cases ht
  have FIN := Lib.hid fin
  clear fin
  cases hb1 : b1
  · go_wp2_with fail
    refine bodyPost_ret (v := .tuple #[.agg (tcs 6 0 0 0 ⟨#[]⟩ n1 n2 (.slice none 0 0)), .bool false]) (by simp [results, Tryz.results91, go_sem, z0', z1', z2', z3', z4', z5', z6']) rfl ⟨FIN.out _ (by rw [hb1]; rfl), ?_⟩
    exact O3.out.set7 (by omega)
  · go_wp2_with fail
    refine bodyPost_ret (v := .tuple #[.agg (tcs 6 0 0 0 ⟨#[]⟩ n1 n2 (.slice none 0 0)), .bool b2]) (by simp [results, Tryz.results91, go_sem, z0', z1', z2', z3', z4', z5', z6']) rfl ⟨FIN.out _ (by rw [hb1]; rfl), ?_⟩
    exact O3.out.set7 (by omega)
end Go.Proofs.YtlpafnibcmcjgaaGreatDoor
