/- text: the term that a token is by itself, ahead of whether it may be. text: pids and complex numbers of their tokens, ahead of whether they may be. text: complex numbers of their tokens. text: the term that a token is by itself. -/
import Derived.Test.YtlilfmpikampgaaGreatDoorPMc
import Derived.Test.YtlilfmpikampgaaGreatDoorPMe
namespace Go.Proofs.YtlilfmpikampgaaGreatDoor
open Go.RowKit

/-- What a word says. -/
def rawW (s : ByteArray) : T := if lst s = [110, 105, 108] then .nil else if lst s = [116, 114, 117, 101] then .bool true else if lst s = [102, 97, 108, 115, 101] then .bool false else .atom s
theorem Only.set7 {w w1 : World} {b : Nat} {v0 v1 v2 v3 v4 v5 v6 : Value} (h : Only [] w w1) (hb : w.heap.size ≤ b) :
    Only [] w (((((((w1.setCell ⟨b, 0, none⟩ v0).setCell ⟨b, 1, none⟩ v1).setCell ⟨b, 2, none⟩ v2).setCell ⟨b, 3, none⟩ v3).setCell ⟨b, 4, none⟩ v4).setCell ⟨b, 5, none⟩ v5).setCell ⟨b, 6, none⟩ v6) :=
  ((((((h.set (.inr hb) _).set (.inr hb) _).set (.inr hb) _).set (.inr hb) _).set (.inr hb) _).set (.inr hb) _).set (.inr hb) _
abbrev Z7 : Array Value := tcs 0 0 0 0 ⟨#[]⟩ 0 0 (.slice none 0 0)
set_option maxHeartbeats 2000000 in
theorem word_term (s : ByteArray) (w : World) (hs : s.size ≤ 262144) : Calls Tryz.prog 131 #[.string s] w fun e w' => e = .returned (.agg ((rawW s).cs (.slice none 0 0))) ∧ Only [] w w' := by
  have rs := store_com
  by_cases h1 : lst s = [110, 105, 108]
  · have e1 : (s.toList == [110, 105, 108]) = true := by rw [eq_list]; simp [h1]
    have R : Hid (rawW s = .nil) := Lib.hid (by unfold rawW; rw [if_pos h1])
    clear h1
    go_enter Tryz.func131, Tryz.ntmps131
    go_wp2_with fail
    refine bodyPost_ret (v := .agg (tcs 1 0 0 0 ⟨#[]⟩ 0 0 (.slice none 0 0))) (by simp [results, Tryz.results131, go_sem]) rfl ⟨by rw [R.out]; rfl, ?_⟩
    exact (Only.refl _ _).alloc _
  have e1 : (s.toList == [110, 105, 108]) = false := by rw [eq_list]; simp [h1]
  by_cases h2 : lst s = [116, 114, 117, 101]
  · have e2 : (s.toList == [116, 114, 117, 101]) = true := by rw [eq_list]; simp [h2]
    have R : Hid (rawW s = .bool true) := Lib.hid (by unfold rawW; rw [if_neg h1, if_pos h2])
    clear h1 h2
    go_enter Tryz.func131, Tryz.ntmps131
    go_wp2_with fail
    refine bodyPost_ret (v := .agg (tcs 2 1 0 0 ⟨#[]⟩ 0 0 (.slice none 0 0))) (by simp [results, Tryz.results131, go_sem]) rfl ⟨by rw [R.out]; rfl, ?_⟩
    exact (Only.refl _ _).alloc _
  have e2 : (s.toList == [116, 114, 117, 101]) = false := by rw [eq_list]; simp [h2]
  by_cases h3 : lst s = [102, 97, 108, 115, 101]
  · have e3 : (s.toList == [102, 97, 108, 115, 101]) = true := by rw [eq_list]; simp [h3]
    have R : Hid (rawW s = .bool false) := Lib.hid (by unfold rawW; rw [if_neg h1, if_neg h2, if_pos h3])
    clear h1 h2 h3
    go_enter Tryz.func131, Tryz.ntmps131
    go_wp2_with fail
    refine bodyPost_ret (v := .agg (tcs 2 0 0 0 ⟨#[]⟩ 0 0 (.slice none 0 0))) (by simp [results, Tryz.results131, go_sem]) rfl ⟨by rw [R.out]; rfl, ?_⟩
    exact (Only.refl _ _).alloc _
  have e3 : (s.toList == [102, 97, 108, 115, 101]) = false := by rw [eq_list]; simp [h3]
  have R : Hid (rawW s = .atom s) := Lib.hid (by unfold rawW; rw [if_neg h1, if_neg h2, if_neg h3])
  clear h1 h2 h3
  have HZ := Lib.hid (Bk.made w 27 Z7)
  go_enter Tryz.func131, Tryz.ntmps131
  go_wp2_with fail
  (with_reducible refine (clone_any s _ hs).mono ?_)
  rintro e w1 ⟨rfl, o1⟩
  have O1 := Lib.hid (((Only.refl [] w).alloc (.cells Z7 27)).trans o1 (by simp))
  have HZ1 := Lib.hid (HZ.out.only o1 (by simp))
  obtain ⟨z0, z1, z2, z3, z4, z5, z6⟩ := HZ1.out.seven
  have zf := HZ1.out.free
  clear o1
  go_wp2_with fail
  refine bodyPost_ret (v := .agg (tcs 5 0 0 0 s 0 0 (.slice none 0 0))) (by simp [results, Tryz.results131, go_sem, z0, z1, z2, z3, z4, z5, z6]) rfl ⟨by rw [R.out]; rfl, ?_⟩
  exact O1.out.set7 (by omega)

theorem is_bounded (n : Int) (w : World) : Calls Tryz.prog 158 #[.int .i64 n] w fun e w' => e = .returned (.bool (okPart n)) ∧ w = w' := by
  go_enter Tryz.func158, Tryz.ntmps158
  go_wp2_with fail
  all_goals
    go_ret
    exact ⟨ret_bool (by rw [Bool.eq_iff_iff]; simp [okPart]; omega), rfl⟩
set_option maxHeartbeats 2000000 in
theorem complex_yes (a b : Int) (w : World) (ha : okPart a = true) (hb : okPart b = true) :
    Calls Tryz.prog 145 #[.int .i64 a, .int .i64 b] w fun e w' => e = .returned (.tuple #[.agg ((T.com a b).cs (.slice none 0 0)), .int .i64 0]) ∧ Only [] w w' := by
  have HA := Lib.hid (fun w => is_bounded a w)
  have HB := Lib.hid (fun w => is_bounded b w)
  rw [ha] at HA
  rw [hb] at HB
  clear ha hb
  have rs := store_com
  go_enter Tryz.func145, Tryz.ntmps145
  go_wp2_with fail
  (with_reducible refine (HA.out _).mono ?_)
  rintro e w' ⟨rfl, rfl⟩
  go_wp2_with fail
  (with_reducible refine (HB.out _).mono ?_)
  rintro e w' ⟨rfl, rfl⟩
  go_wp2_with fail
  refine bodyPost_ret (v := .tuple #[.agg (tcs 4 0 (floatOfInt .f64 a) (floatOfInt .f64 b) ⟨#[]⟩ 0 0 (.slice none 0 0)), .int .i64 0]) (by simp [results, Tryz.results145, go_sem]) rfl ⟨rfl, ?_⟩
  exact ((Only.refl _ _).alloc _)
set_option maxHeartbeats 2000000 in
theorem complex_no (a b : Int) (w : World) (h : (okPart a && okPart b) = false) :
    Calls Tryz.prog 145 #[.int .i64 a, .int .i64 b] w fun e w' => e = .returned (.tuple #[.agg Z7, .int .i64 31]) ∧ Only [] w w' := by
  have rs := store_com
  have HA := Lib.hid (fun w => is_bounded a w)
  have HB := Lib.hid (fun w => is_bounded b w)
  rcases bt (okPart a) with ha | ha
  · have hb : okPart b = false := by rw [ha] at h; simpa using h
    rw [ha] at HA
    rw [hb] at HB
    clear ha hb h
    go_enter Tryz.func145, Tryz.ntmps145
    go_wp2_with fail
    (with_reducible refine (HA.out _).mono ?_)
    rintro e w' ⟨rfl, rfl⟩
    go_wp2_with fail
    (with_reducible refine (HB.out _).mono ?_)
    rintro e w' ⟨rfl, rfl⟩
    go_wp2_with fail
    refine bodyPost_ret (v := .tuple #[.agg Z7, .int .i64 31]) (by simp [results, Tryz.results145, go_sem]) rfl ⟨rfl, ?_⟩
    exact ((Only.refl _ _).alloc _)
  · rw [ha] at HA
    clear ha h
    go_enter Tryz.func145, Tryz.ntmps145
    go_wp2_with fail
    (with_reducible refine (HA.out _).mono ?_)
    rintro e w' ⟨rfl, rfl⟩
    go_wp2_with fail
    refine bodyPost_ret (v := .tuple #[.agg Z7, .int .i64 31]) (by simp [results, Tryz.results145, go_sem]) rfl ⟨rfl, ?_⟩
    exact ((Only.refl _ _).alloc _)
end Go.Proofs.YtlilfmpikampgaaGreatDoor

namespace Go.Proofs.YtlilfmpikampgaaGreatDoor
open Go.RowKit

theorem number_any (s : ByteArray) (w : World) (hs : s.size ≤ 262144) (hv : Vars w) : Calls Tryz.prog 133 #[.string s] w fun e w' => ∃ (n : Int) (b : Bool), e = .returned (.tuple #[.int .i64 n, .bool b]) ∧ Only [] w w' ∧ (∀ v, numP (lst s) = some v → n = v ∧ b = true) ∧ (numP (lst s) = none → b = false) := by
  cases h : numP (lst s) with
  | some v => exact (number_yes s v w hs hv h).mono fun _ _ ⟨he, ho⟩ => ⟨v, true, he, ho, fun u hu => (by injection hu with hu; exact ⟨hu, rfl⟩), fun e => (by cases e)⟩
  | none => exact (number_no s w hs hv h).mono fun _ _ ⟨n, he, ho⟩ => ⟨n, false, he, ho, fun u hu => (by cases hu), fun _ => rfl⟩
theorem trimS_to (s p z : ByteArray) (w : World) (hs : s.size ≤ 262144) (hz : (⟨(Lib.trimSuffix (lst s) (lst p)).toArray⟩ : ByteArray) = z) :
    Calls Tryz.prog 139 #[.string s, .string p] w fun e w' => e = .returned (.string z) ∧ w = w' := by
  subst hz
  exact trimS_any s p w hs
theorem trimP_to (s p z : ByteArray) (w : World) (hz : (⟨(Lib.trimPrefix (lst s) (lst p)).toArray⟩ : ByteArray) = z) :
    Calls Tryz.prog 144 #[.string s, .string p] w fun e w' => e = .returned (.string z) ∧ w = w' := by
  subst hz
  exact trimP_any s p w
theorem cut_to (s sep z1 z2 : ByteArray) (b : Bool) (w : World) (hs : s.size ≤ 262144) (hv : Vars w) (h1 : (⟨(Lib.cut (lst s) (lst sep)).1.toArray⟩ : ByteArray) = z1) (h2 : (⟨(Lib.cut (lst s) (lst sep)).2.1.toArray⟩ : ByteArray) = z2) (h3 : (Lib.cut (lst s) (lst sep)).2.2 = b) :
    Calls Tryz.prog 138 #[.string s, .string sep] w fun e w' => e = .returned (.tuple #[.string z1, .string z2, .bool b]) ∧ Only [] w w' := by
  subst h1 h2 h3
  exact cut_any s sep w hs hv
theorem size_lst {s : ByteArray} {n : Nat} (h : (lst s).length ≤ n) : s.size ≤ n := by rw [← lst_len]; exact h
theorem trimS_le (l p : List UInt8) : (Lib.trimSuffix l p).length ≤ l.length := by
  unfold Lib.trimSuffix
  split
  · rw [List.length_take]; omega
  · exact Nat.le_refl _
theorem trimP_le (l p : List UInt8) : (Lib.trimPrefix l p).length ≤ l.length := by
  unfold Lib.trimPrefix
  split
  · rw [List.length_drop]; omega
  · exact Nat.le_refl _
theorem cut_le (l p : List UInt8) : (Lib.cut l p).1.length ≤ l.length ∧ (Lib.cut l p).2.1.length ≤ l.length := by
  unfold Lib.cut
  split
  · simp only [List.length_take, List.length_drop]; omega
  · simp

/-- What a function answers that reads a token: a term, if it is one. -/
def Means (o : Option T) (e : Ending) : Prop := ∃ (k n : Int) (x y : Nat) (S : ByteArray) (a b : Int) (ok : Bool), e = .returned (.tuple #[.agg (tcs k n x y S a b (.slice none 0 0)), .bool ok]) ∧ (∀ t, o = some t → ok = true ∧ tcs k n x y S a b (.slice none 0 0) = t.cs (.slice none 0 0)) ∧ (o = none → ok = false)

/-- What a pid's token says. -/
def rawP (l : List UInt8) : Option T :=
  match numP (Lib.cut (Lib.trimSuffix l [62]) [46]).1, numP (Lib.cut (Lib.trimSuffix l [62]) [46]).2.1 with
  | some n, some g => some (.pid n g)
  | _, _ => none
set_option maxHeartbeats 2000000 in
theorem pid_term (s : ByteArray) (w : World) (hs : s.size ≤ 262144) (h1 : 1 ≤ s.size) (hv : Vars w) : Calls Tryz.prog 132 #[.string s] w fun e w' => Means (rawP ((lst s).drop 1)) e ∧ Only [] w w' := by
  obtain ⟨z, hz⟩ : ∃ z, (⟨(Lib.trimSuffix (lst (s.extract 1 s.size)) (lst ⟨#[62]⟩)).toArray⟩ : ByteArray) = z := ⟨_, rfl⟩
  have hzl : lst z = Lib.trimSuffix ((lst s).drop 1) [62] := by rw [← hz, lst_mk, lst_from]; rfl
  have hzs : z.size ≤ 262144 := size_lst (by rw [hzl]; refine Nat.le_trans (trimS_le _ _) ?_; rw [List.length_drop, lst_len]; omega)
  obtain ⟨z1, hz1⟩ : ∃ z1, (⟨(Lib.cut (lst z) (lst ⟨#[46]⟩)).1.toArray⟩ : ByteArray) = z1 := ⟨_, rfl⟩
  obtain ⟨z2, hz2⟩ : ∃ z2, (⟨(Lib.cut (lst z) (lst ⟨#[46]⟩)).2.1.toArray⟩ : ByteArray) = z2 := ⟨_, rfl⟩
  obtain ⟨b3, hb3⟩ : ∃ b3, (Lib.cut (lst z) (lst ⟨#[46]⟩)).2.2 = b3 := ⟨_, rfl⟩
  have hl1 : lst z1 = (Lib.cut (Lib.trimSuffix ((lst s).drop 1) [62]) [46]).1 := by rw [← hz1, lst_mk, hzl]; rfl
  have hl2 : lst z2 = (Lib.cut (Lib.trimSuffix ((lst s).drop 1) [62]) [46]).2.1 := by rw [← hz2, lst_mk, hzl]; rfl
  have hs1 : z1.size ≤ 262144 := size_lst (by rw [hl1, ← hzl]; exact Nat.le_trans (cut_le _ _).1 (by rw [lst_len]; exact hzs))
  have hs2 : z2.size ≤ 262144 := size_lst (by rw [hl2, ← hzl]; exact Nat.le_trans (cut_le _ _).2 (by rw [lst_len]; exact hzs))
  have HZ := Lib.hid hz
  have HZ1 := Lib.hid hz1
  have HZ2 := Lib.hid hz2
  have HB3 := Lib.hid hb3
  have HR := Lib.hid (show rawP ((lst s).drop 1) = match numP (lst z1), numP (lst z2) with | some n, some g => some (T.pid n g) | _, _ => none by unfold rawP; rw [hl1, hl2])
  have HB := Lib.hid (Bk.made w 27 Z7)
  have rs := store_com
  have hes : (s.extract 1 s.size).size ≤ 262144 := by rw [ext_size]; omega
  clear hz hz1 hz2 hb3 hzl hl1 hl2
  go_enter Tryz.func132, Tryz.ntmps132
  go_wp2_with fail
  (with_reducible refine (trimS_to _ _ _ _ hes HZ.out).mono ?_)
  rintro e w' ⟨rfl, rfl⟩
  go_wp2_with fail
  (with_reducible refine (cut_to _ _ _ _ _ _ hzs (hv.alloc _) HZ1.out HZ2.out HB3.out).mono ?_)
  rintro e w1 ⟨rfl, o1⟩
  have O1 := Lib.hid (((Only.refl [] w).alloc (.cells Z7 27)).trans o1 (by simp))
  have B1 := Lib.hid (HB.out.only o1 (by simp))
  have hv1 := hv.same O1.out
  clear o1
  go_wp2_with fail
  (with_reducible refine (number_any z1 _ hs1 hv1).mono ?_)
  rintro e w2 ⟨n1, b1, rfl, o2, hy1, hn1⟩
  have O2 := Lib.hid (O1.out.trans o2 (by simp))
  have B2 := Lib.hid (B1.out.only o2 (by simp))
  have hv2 := hv1.same o2
  have Y1 := Lib.hid hy1
  have N1 := Lib.hid hn1
  clear o2 hy1 hn1 hv1
  go_wp2_with fail
  (with_reducible refine (number_any z2 _ hs2 hv2).mono ?_)
  rintro e w3 ⟨n2, b2, rfl, o3, hy2, hn2⟩
  have O3 := Lib.hid (O2.out.trans o3 (by simp))
  have B3 := Lib.hid (B2.out.only o3 (by simp))
  have Y2 := Lib.hid hy2
  have N2 := Lib.hid hn2
  obtain ⟨z0', z1', z2', z3', z4', z5', z6'⟩ := B3.out.seven
  have zf := B3.out.free
  clear o3 hy2 hn2 hv2 hv
  have fin : ∀ ok : Bool, ok = (b1 && b2) → Means (rawP ((lst s).drop 1)) (.returned (.tuple #[.agg (tcs 6 0 0 0 ⟨#[]⟩ n1 n2 (.slice none 0 0)), .bool ok])) := by
    intro ok hok
    refine ⟨_, _, _, _, _, _, _, _, rfl, ?_, ?_⟩
    · intro t ht
      rw [HR.out] at ht
      cases h1 : numP (lst z1) with
      | none => rw [h1] at ht; cases ht
      | some v1 =>
        cases h2 : numP (lst z2) with
        | none => rw [h1, h2] at ht; cases ht
        | some v2 =>
          rw [h1, h2] at ht
          injection ht with ht
          subst ht
          obtain ⟨rfl, rfl⟩ := Y1.out v1 h1
          obtain ⟨rfl, rfl⟩ := Y2.out v2 h2
          exact ⟨hok, rfl⟩
    · intro ht
      rw [HR.out] at ht
      rw [hok]
      cases h1 : numP (lst z1) with
      | none => rw [N1.out h1]; rfl
      | some v1 =>
        cases h2 : numP (lst z2) with
        | none => rw [N2.out h2]; simp
        | some v2 => rw [h1, h2] at ht; cases ht
  have FIN := Lib.hid fin
  clear fin
  cases hb1 : b1
  · go_wp2_with fail
    refine bodyPost_ret (v := .tuple #[.agg (tcs 6 0 0 0 ⟨#[]⟩ n1 n2 (.slice none 0 0)), .bool false]) (by simp [results, Tryz.results132, go_sem, z0', z1', z2', z3', z4', z5', z6']) rfl ⟨FIN.out _ (by rw [hb1]; rfl), ?_⟩
    exact O3.out.set7 (by omega)
  · go_wp2_with fail
    refine bodyPost_ret (v := .tuple #[.agg (tcs 6 0 0 0 ⟨#[]⟩ n1 n2 (.slice none 0 0)), .bool b2]) (by simp [results, Tryz.results132, go_sem, z0', z1', z2', z3', z4', z5', z6']) rfl ⟨FIN.out _ (by rw [hb1]; rfl), ?_⟩
    exact O3.out.set7 (by omega)
end Go.Proofs.YtlilfmpikampgaaGreatDoor

namespace Go.Proofs.YtlilfmpikampgaaGreatDoor
open Go.RowKit

theorem last_any (s : ByteArray) (w : World) (p : Nat) (h2 : 2 ≤ s.size) (hs : s.size ≤ 262144) (hp : p < s.size) (hpm : isPM (s[p]'hp) = true) (hno : ∀ j (hj : j < s.size), p < j → isPM (s[j]'hj) = false) (hasc : ∀ j (hj : j < s.size), (s[j]'hj).toNat < 128) :
    Calls Tryz.prog 143 #[.string s, .string ⟨#[43, 45]⟩] w fun e w' => e = .returned (.int .i64 p) ∧ Only [] w w' := by
  by_cases h : 8 < s.size
  · exact last_long s w p h hs hp hpm hno
  · exact last_short s w p (by omega) h2 hp hpm hno hasc
theorem lastPM_at (A D : List UInt8) (sg : UInt8) (hsg : isPM sg = true) (hD : ∀ c ∈ D, isPM c = false) : lastPM (A ++ sg :: D) = A.length := by
  unfold lastPM
  have e : runOf (fun b => !isPM b) (A ++ sg :: D).reverse = D.length := by
    rw [List.reverse_append, List.reverse_cons, List.append_assoc]
    refine runOf_of (fun j b hj hb => ?_) (fun b hb => ?_) (by simp)
    · rw [List.getElem?_append_left (by simpa using hj)] at hb
      have := List.mem_of_getElem? hb
      rw [hD b (by simpa using this)]
      rfl
    · rw [List.getElem?_append_right (by simp)] at hb
      simp at hb
      rw [← hb, hsg]
      rfl
  rw [e]
  simp
theorem means_no {o : Option T} (h : o = none) (k n : Int) (x y : Nat) (S : ByteArray) (a b : Int) : Means o (.returned (.tuple #[.agg (tcs k n x y S a b (.slice none 0 0)), .bool false])) :=
  ⟨k, n, x, y, S, a, b, false, rfl, fun t ht => (by rw [h] at ht; cases ht), fun _ => rfl⟩
theorem means_yes {o : Option T} {t : T} (h : o = some t) : Means o (.returned (.tuple #[.agg (t.cs (.slice none 0 0)), .bool true])) :=
  ⟨t.k, t.n, t.x, t.y, t.S, t.a, t.b, true, rfl, fun u hu => (by rw [h] at hu; injection hu with hu; subst hu; exact ⟨rfl, rfl⟩), fun e => (by rw [h] at e; cases e)⟩
theorem sevenA {w : World} {b : Nat} {t : TypeId} {v0 v1 v2 v3 v4 v5 v6 : Value} (h : Bk w b t #[v0, v1, v2, v3, v4, v5, v6]) :
    (∀ o, (w.alloc o).cell? ⟨b, 0, none⟩ = some v0) ∧ (∀ o, (w.alloc o).cell? ⟨b, 1, none⟩ = some v1) ∧ (∀ o, (w.alloc o).cell? ⟨b, 2, none⟩ = some v2) ∧ (∀ o, (w.alloc o).cell? ⟨b, 3, none⟩ = some v3) ∧ (∀ o, (w.alloc o).cell? ⟨b, 4, none⟩ = some v4) ∧ (∀ o, (w.alloc o).cell? ⟨b, 5, none⟩ = some v5) ∧ (∀ o, (w.alloc o).cell? ⟨b, 6, none⟩ = some v6) :=
  ⟨fun o => (h.alloc o).cell0 rfl, fun o => (h.alloc o).cell0 rfl, fun o => (h.alloc o).cell0 rfl, fun o => (h.alloc o).cell0 rfl, fun o => (h.alloc o).cell0 rfl, fun o => (h.alloc o).cell0 rfl, fun o => (h.alloc o).cell0 rfl⟩
/-- The shape of a complex number's token, without its i. -/
structure Body (l A D : List UInt8) (sg : UInt8) : Prop where
  eq : comB l = A ++ sg :: D
  sg : isPM sg = true
  no : ∀ c ∈ D, isPM c = false
  asc : ∀ c ∈ comB l, c.toNat < 128
  ne : A ≠ []
set_option maxHeartbeats 2000000 in
theorem com_term (s : ByteArray) (A D : List UInt8) (sg : UInt8) (w : World) (hs : s.size ≤ 262144) (hB : Body (lst s) A D sg) (hv : Vars w) : Calls Tryz.prog 135 #[.string s] w fun e w' => Means (comT (lst s)) e ∧ Only [] w w' := by
  obtain ⟨z, hz⟩ : ∃ z, (⟨(Lib.trimSuffix (lst s) (lst ⟨#[105]⟩)).toArray⟩ : ByteArray) = z := ⟨_, rfl⟩
  have hzl : lst z = A ++ sg :: D := by rw [← hz, lst_mk]; exact hB.eq
  have hzs : z.size ≤ 262144 := size_lst (by rw [hzl, ← hB.eq]; refine Nat.le_trans (trimS_le _ _) ?_; rw [lst_len]; exact hs)
  have hzn : z.size = A.length + 1 + D.length := by rw [← lst_len, hzl]; simp; omega
  have hA1 : 1 ≤ A.length := List.length_pos_iff.2 hB.ne
  have hp : A.length < z.size := by omega
  have hat : ∀ j (hj : j < z.size), (A ++ sg :: D)[j]? = some (z[j]'hj) := fun j hj => by rw [← hzl]; exact lst_at hj
  have L := Lib.hid (fun w => last_any z w A.length (by omega) hzs hp
    (by
      have h := hat A.length hp
      rw [List.getElem?_append_right (Nat.le_refl _)] at h
      simp at h
      rw [← h]; exact hB.sg)
    (fun j hj hlt => by
      have h := hat j hj
      rw [List.getElem?_append_right (by omega), show j - A.length = (j - A.length - 1) + 1 by omega, List.getElem?_cons_succ] at h
      exact hB.no _ (List.mem_of_getElem? h))
    (fun j hj => by
      have h := hat j hj
      rw [← hB.eq] at h
      exact hB.asc _ (List.mem_of_getElem? h)))
  obtain ⟨z3, hz3⟩ : ∃ z3, (⟨(Lib.trimPrefix (lst (z.extract A.length z.size)) (lst ⟨#[43]⟩)).toArray⟩ : ByteArray) = z3 := ⟨_, rfl⟩
  have hl1 : lst (z.extract 0 A.length) = (comB (lst s)).take (lastPM (comB (lst s))) := by rw [lst_to, hzl, hB.eq, lastPM_at _ _ _ hB.sg hB.no]
  have hl3 : lst z3 = Lib.trimPrefix ((comB (lst s)).drop (lastPM (comB (lst s)))) [43] := by rw [← hz3, lst_mk, lst_from, hzl, hB.eq, lastPM_at _ _ _ hB.sg hB.no]; rfl
  have hs1 : (z.extract 0 A.length).size ≤ 262144 := size_lst (by rw [lst_to, List.length_take, lst_len]; omega)
  have hs3 : z3.size ≤ 262144 := size_lst (by rw [← hz3, lst_mk]; refine Nat.le_trans (trimP_le _ _) ?_; rw [lst_from, List.length_drop, lst_len]; omega)
  have HZ := Lib.hid hz
  have HZ3 := Lib.hid hz3
  have HR := Lib.hid (show comT (lst s) = match numP (lst (z.extract 0 A.length)), numP (lst z3) with | some a, some b => if okPart a && okPart b then some (T.com a b) else none | _, _ => none by unfold comT; rw [hl1, hl3]; generalize numP _ = u; generalize numP _ = v; cases u <;> (try cases v) <;> rfl)
  have B0 := Lib.hid (Bk.made w 27 Z7)
  have rs := store_com
  clear hz hz3 hzl hl1 hl3 hat hzn hB
  go_enter Tryz.func135, Tryz.ntmps135
  go_wp2_with fail
  (with_reducible refine (trimS_to _ _ _ _ hs HZ.out).mono ?_)
  rintro e w' ⟨rfl, rfl⟩
  go_wp2_with fail
  (with_reducible refine (L.out _).mono ?_)
  rintro e w1 ⟨rfl, o1⟩
  have O1 := Lib.hid (((Only.refl [] w).alloc (.cells Z7 27)).trans o1 (by simp))
  have B1 := Lib.hid (B0.out.only o1 (by simp))
  have hv1 := hv.same O1.out
  clear o1
  go_wp2_with fail
  (with_reducible refine (number_any _ _ hs1 hv1).mono ?_)
  rintro e w2 ⟨n1, b1, rfl, o2, hy1, hn1⟩
  have O2 := Lib.hid (O1.out.trans o2 (by simp))
  have B2 := Lib.hid (B1.out.only o2 (by simp))
  have hv2 := hv1.same o2
  have Y1 := Lib.hid hy1
  have N1 := Lib.hid hn1
  clear o2 hy1 hn1 hv1
  go_wp2_with fail
  (with_reducible refine (trimP_to _ _ _ _ HZ3.out).mono ?_)
  rintro e w' ⟨rfl, rfl⟩
  go_wp2_with fail
  (with_reducible refine (number_any _ _ hs3 hv2).mono ?_)
  rintro e w3 ⟨n2, b2, rfl, o3, hy2, hn2⟩
  have O3 := Lib.hid (O2.out.trans o3 (by simp))
  have B3 := Lib.hid (B2.out.only o3 (by simp))
  have Y2 := Lib.hid hy2
  have N2 := Lib.hid hn2
  clear o3 hy2 hn2 hv2 hv
  have finN : (b1 = false ∨ b2 = false ∨ (okPart n1 && okPart n2) = false) → comT (lst s) = none := by
    intro h
    rw [HR.out]
    cases h1 : numP (lst (z.extract 0 A.length)) with
    | none => rfl
    | some v1 =>
      cases h2 : numP (lst z3) with
      | none => rfl
      | some v2 =>
        obtain ⟨e1, e2⟩ := Y1.out v1 h1
        obtain ⟨e3, e4⟩ := Y2.out v2 h2
        subst e1 e3
        rcases h with h | h | h
        · rw [e2] at h; cases h
        · rw [e4] at h; cases h
        · simp only [h]; rfl
  have finY : b1 = true → b2 = true → (okPart n1 && okPart n2) = true → comT (lst s) = some (.com n1 n2) := by
    intro h1 h2 h3
    rw [HR.out]
    cases h4 : numP (lst (z.extract 0 A.length)) with
    | none => rw [N1.out h4] at h1; cases h1
    | some v1 =>
      cases h5 : numP (lst z3) with
      | none => rw [N2.out h5] at h2; cases h2
      | some v2 =>
        obtain ⟨rfl, _⟩ := Y1.out v1 h4
        obtain ⟨rfl, _⟩ := Y2.out v2 h5
        simp only [h3, if_true]
  have FN := Lib.hid finN
  have FY := Lib.hid finY
  clear finN finY
  cases hc : okPart n1 && okPart n2 with
  | false =>
    have HC := Lib.hid hc
    clear hc
    go_wp2_with fail
    (with_reducible refine (complex_no n1 n2 _ HC.out).mono ?_)
    rintro e w4 ⟨rfl, o4⟩
    have O4 := Lib.hid (O3.out.trans o4 (by simp))
    have B4 := Lib.hid (B3.out.only o4 (by simp))
    obtain ⟨q0, q1, q2, q3, q4, q5, q6⟩ := sevenA B4.out
    have zf := fun o => (B4.out.alloc o).free
    clear o4
    cases hb1 : b1 <;> cases hb2 : b2
    all_goals
      go_wp2_with fail
      refine bodyPost_ret (v := .tuple #[.agg Z7, .bool false]) (by simp [results, Tryz.results135, go_sem, q0, q1, q2, q3, q4, q5, q6]) rfl ⟨means_no (FN.out (.inr (.inr HC.out))) _ _ _ _ _ _ _, ?_⟩
      exact (O4.out.alloc _).set7 (by omega)
  | true =>
    have HC := Lib.hid hc
    have ha : okPart n1 = true := by revert hc; cases okPart n1 <;> simp
    have hb : okPart n2 = true := by revert hc; cases okPart n2 <;> simp
    have K := Lib.hid (show ∀ w, Calls Tryz.prog 145 #[.int .i64 n1, .int .i64 n2] w fun e w' => e = .returned (.tuple #[.agg (tcs 4 0 (floatOfInt .f64 n1) (floatOfInt .f64 n2) ⟨#[]⟩ 0 0 (.slice none 0 0)), .int .i64 0]) ∧ Only [] w w' from fun w => complex_yes n1 n2 w ha hb)
    clear hc ha hb
    go_wp2_with fail
    (with_reducible refine (K.out _).mono ?_)
    rintro e w4 ⟨rfl, o4⟩
    have O4 := Lib.hid (O3.out.trans o4 (by simp))
    have B4 := Lib.hid (B3.out.only o4 (by simp))
    obtain ⟨q0, q1, q2, q3, q4, q5, q6⟩ := sevenA B4.out
    have zf := fun o => (B4.out.alloc o).free
    clear o4
    cases hb1 : b1 <;> cases hb2 : b2
    case true.true =>
      go_wp2_with fail
      refine bodyPost_ret (v := .tuple #[.agg (tcs 4 0 (floatOfInt .f64 n1) (floatOfInt .f64 n2) ⟨#[]⟩ 0 0 (.slice none 0 0)), .bool true]) (by simp [results, Tryz.results135, go_sem, q0, q1, q2, q3, q4, q5, q6]) rfl ⟨means_yes (FY.out hb1 hb2 HC.out), ?_⟩
      exact (O4.out.alloc _).set7 (by omega)
    all_goals
      go_wp2_with fail
      refine bodyPost_ret (v := .tuple #[.agg (tcs 4 0 (floatOfInt .f64 n1) (floatOfInt .f64 n2) ⟨#[]⟩ 0 0 (.slice none 0 0)), .bool false]) (by simp [results, Tryz.results135, go_sem, q0, q1, q2, q3, q4, q5, q6]) rfl ⟨means_no (FN.out (by first | exact .inl hb1 | exact .inr (.inl hb2))) _ _ _ _ _ _ _, ?_⟩
      exact (O4.out.alloc _).set7 (by omega)
end Go.Proofs.YtlilfmpikampgaaGreatDoor

namespace Go.Proofs.YtlilfmpikampgaaGreatDoor
open Go.RowKit

/-- A text as a token of a text is. -/
structure TokOk (s : ByteArray) : Prop where
  le : s.size ≤ 262144
  ne : 1 ≤ s.size
  body : ∀ c r, lst s = c :: r → isSm c = false → c.toNat ≠ 60 → c.toNat ≠ 35 → Lib.hasSuffix (lst s) [105] = true → ∃ A D sg, Body (lst s) A D sg
/-- What a token says, whether it may be or not. -/
def rawL (s : ByteArray) : Option T :=
  match lst s with
  | [] => none
  | c :: r => if isSm c then some (rawW s) else if c.toNat = 60 then rawP r else if c.toNat = 35 then (numP r).map T.ref else if Lib.hasSuffix (c :: r) [105] then comT (c :: r) else (numP (c :: r)).map T.int
theorem raw_sm {s : ByteArray} {c : UInt8} {r : List UInt8} (h : lst s = c :: r) (h1 : isSm c = true) : rawL s = some (rawW s) := by unfold rawL; rw [h]; simp only [h1, if_true]
theorem raw_pid {s : ByteArray} {c : UInt8} {r : List UInt8} (h : lst s = c :: r) (h1 : isSm c = false) (h2 : c.toNat = 60) : rawL s = rawP r := by unfold rawL; rw [h]; simp only [h1]; rw [if_neg (by simp), if_pos h2]
theorem raw_ref {s : ByteArray} {c : UInt8} {r : List UInt8} (h : lst s = c :: r) (h1 : isSm c = false) (h2 : c.toNat ≠ 60) (h3 : c.toNat = 35) : rawL s = (numP r).map T.ref := by unfold rawL; rw [h]; simp only [h1]; rw [if_neg (by simp), if_neg h2, if_pos h3]
theorem raw_com {s : ByteArray} {c : UInt8} {r : List UInt8} (h : lst s = c :: r) (h1 : isSm c = false) (h2 : c.toNat ≠ 60) (h3 : c.toNat ≠ 35) (h4 : Lib.hasSuffix (lst s) [105] = true) : rawL s = comT (lst s) := by
  rw [h] at h4
  unfold rawL; rw [h]; simp only [h1]; rw [if_neg (by simp), if_neg h2, if_neg h3, if_pos h4]
theorem raw_int {s : ByteArray} {c : UInt8} {r : List UInt8} (h : lst s = c :: r) (h1 : isSm c = false) (h2 : c.toNat ≠ 60) (h3 : c.toNat ≠ 35) (h4 : Lib.hasSuffix (lst s) [105] = false) : rawL s = (numP (lst s)).map T.int := by
  rw [h] at h4
  unfold rawL; rw [h]; simp only [h1]; rw [if_neg (by simp), if_neg h2, if_neg h3, if_neg (by simp [h4])]
theorem hasS_to (s : ByteArray) (r : Bool) (w : World) (hs : s.size ≤ 262144) (h : Lib.hasSuffix (lst s) [105] = r) :
    Calls Tryz.prog 134 #[.string s, .string ⟨#[105]⟩] w fun e w' => e = .returned (.bool r) ∧ w = w' :=
  (hasS_any s ⟨#[105]⟩ w hs).mono fun _ _ ⟨he, hw⟩ => ⟨by rw [he, show lst ⟨#[105]⟩ = [105] from rfl, h], hw⟩
theorem means_map {o : Option Int} {n : Int} {b : Bool} (hy : ∀ v, o = some v → n = v ∧ b = true) (hn : o = none → b = false) (f : Int → T) (k m : Int) (hf : tcs k m 0 0 ⟨#[]⟩ 0 0 (.slice none 0 0) = (f n).cs (.slice none 0 0)) :
    Means (o.map f) (.returned (.tuple #[.agg (tcs k m 0 0 ⟨#[]⟩ 0 0 (.slice none 0 0)), .bool b])) := by
  cases o with
  | none => rw [hn rfl]; exact means_no rfl _ _ _ _ _ _ _
  | some v =>
    obtain ⟨rfl, rfl⟩ := hy v rfl
    rw [hf]
    exact means_yes rfl
set_option maxHeartbeats 4000000 in
theorem meant_any (s : ByteArray) (w : World) (hT : TokOk s) (hv : Vars w) : Calls Tryz.prog 121 #[.string s] w fun e w' => Means (rawL s) e ∧ Only [] w w' := by
  have hs := hT.le
  have hn := hT.ne
  have hp0 : 0 < s.size := hn
  have hlt : 0 < s.size := hn
  have hl : lst s = s[0]'hlt :: (lst s).drop 1 := by
    have h : 0 < (lst s).length := by rw [lst_len]; exact hlt
    exact List.drop_eq_getElem_cons (l := lst s) (i := 0) h
  have HL := Lib.hid hl
  have HTK := Lib.hid hT
  have hw32 : wrap32 ((s[0]'hlt).toNat : Int) = ((s[0]'hlt).toNat : Int) := IntWalk.wrap32_in _ (by have := UInt8.toNat_lt (s[0]'hlt); omega)
  have rs := store_com
  have B0 := Lib.hid (Bk.made w 27 Z7)
  clear hT hl
  cases h1 : smR (s[0]'hlt).toNat with
  | true =>
    have R := Lib.hid (raw_sm HL.out h1)
    obtain ⟨t, ht⟩ : ∃ t, rawW s = t := ⟨_, rfl⟩
    have W := Lib.hid (show ∀ w, Calls Tryz.prog 131 #[.string s] w fun e w' => e = .returned (.agg (tcs t.k t.n t.x t.y t.S t.a t.b (.slice none 0 0))) ∧ Only [] w w' from fun w => by rw [← ht]; exact word_term s w hs)
    have H := Lib.hid ht
    clear ht
    go_enter Tryz.func121, Tryz.ntmps121
    go_wp2_with fail
    (with_reducible refine (is_small _ _).mono ?_)
    rintro e w' ⟨rfl, rfl⟩
    go_wp2_with fail
    (with_reducible refine (W.out _).mono ?_)
    rintro e w1 ⟨rfl, o1⟩
    have O1 := Lib.hid (((Only.refl [] w).alloc (.cells Z7 27)).trans o1 (by simp))
    have B1 := Lib.hid (B0.out.only o1 (by simp))
    obtain ⟨q0, q1, q2, q3, q4, q5, q6⟩ := B1.out.seven
    have zf := B1.out.free
    clear o1
    go_wp2_with fail
    refine bodyPost_ret (v := .tuple #[.agg (tcs t.k t.n t.x t.y t.S t.a t.b (.slice none 0 0)), .bool true]) (by simp [results, Tryz.results121, go_sem, q0, q1, q2, q3, q4, q5, q6]) rfl ⟨means_yes (t := t) (by rw [R.out, H.out]), ?_⟩
    exact O1.out.set7 (by omega)
  | false =>
    have h1' : isSm (s[0]'hlt) = false := h1
    cases h60 : (((s[0]'hlt).toNat : Int) == 60) with
    | true =>
      have e60 : (s[0]'hlt).toNat = 60 := by have := eq_of_beq h60; omega
      have R := Lib.hid (raw_pid HL.out h1' e60)
      clear h1' e60
      go_enter Tryz.func121, Tryz.ntmps121
      go_wp2_with fail
      (with_reducible refine (is_small _ _).mono ?_)
      rintro e w' ⟨rfl, rfl⟩
      go_wp2_with fail
      (with_reducible refine (pid_term s _ hs hn (hv.alloc _)).mono ?_)
      rintro e w1 ⟨⟨k, n, x, y, S, a, b, ok, rfl, hy, hno⟩, o1⟩
      have Y := Lib.hid hy
      have N := Lib.hid hno
      have O1 := Lib.hid (((Only.refl [] w).alloc (.cells Z7 27)).trans o1 (by simp))
      have B1 := Lib.hid (B0.out.only o1 (by simp))
      obtain ⟨q0, q1, q2, q3, q4, q5, q6⟩ := B1.out.seven
      have zf := B1.out.free
      clear o1 hy hno
      go_wp2_with fail
      refine bodyPost_ret (v := .tuple #[.agg (tcs k n x y S a b (.slice none 0 0)), .bool ok]) (by simp [results, Tryz.results121, go_sem, q0, q1, q2, q3, q4, q5, q6]) rfl ⟨by rw [R.out]; exact ⟨k, n, x, y, S, a, b, ok, rfl, Y.out, N.out⟩, ?_⟩
      exact O1.out.set7 (by omega)
    | false =>
      have e60 : (s[0]'hlt).toNat ≠ 60 := by have := ne_of_beq_false h60; omega
      cases h35 : (((s[0]'hlt).toNat : Int) == 35) with
      | true =>
        have e35 : (s[0]'hlt).toNat = 35 := by have := eq_of_beq h35; omega
        have R := Lib.hid (raw_ref HL.out h1' e60 e35)
        have hes : (s.extract 1 s.size).size ≤ 262144 := by rw [ext_size]; omega
        have hle : Hid (lst (s.extract 1 s.size) = (lst s).drop 1) := Lib.hid (lst_from s)
        clear h1' e60 e35
        go_enter Tryz.func121, Tryz.ntmps121
        go_wp2_with fail
        (with_reducible refine (is_small _ _).mono ?_)
        rintro e w' ⟨rfl, rfl⟩
        go_wp2_with fail
        (with_reducible refine (number_any _ _ hes (hv.alloc _)).mono ?_)
        rintro e w1 ⟨n, b, rfl, o1, hy, hno⟩
        have Y := Lib.hid hy
        have N := Lib.hid hno
        have O1 := Lib.hid (((Only.refl [] w).alloc (.cells Z7 27)).trans o1 (by simp))
        have B1 := Lib.hid (B0.out.only o1 (by simp))
        obtain ⟨q0, q1, q2, q3, q4, q5, q6⟩ := B1.out.seven
        have zf := B1.out.free
        clear o1 hy hno
        go_wp2_with fail
        refine bodyPost_ret (v := .tuple #[.agg (tcs 7 n 0 0 ⟨#[]⟩ 0 0 (.slice none 0 0)), .bool b]) (by simp [results, Tryz.results121, go_sem, q0, q1, q2, q3, q4, q5, q6]) rfl ⟨by rw [R.out]; exact means_map (by rw [← hle.out]; exact Y.out) (by rw [← hle.out]; exact N.out) T.ref 7 n rfl, ?_⟩
        exact O1.out.set7 (by omega)
      | false =>
        have e35 : (s[0]'hlt).toNat ≠ 35 := by have := ne_of_beq_false h35; omega
        cases hsf : Lib.hasSuffix (lst s) [105] with
        | true =>
          have R := Lib.hid (raw_com HL.out h1' e60 e35 hsf)
          obtain ⟨A, D, sg, hB⟩ := HTK.out.body _ _ HL.out h1' e60 e35 hsf
          have K := Lib.hid (fun w hv => com_term s A D sg w hs hB hv)
          have HS := Lib.hid (fun w => hasS_to s true w hs hsf)
          clear h1' e60 e35 hsf hB
          go_enter Tryz.func121, Tryz.ntmps121
          go_wp2_with fail
          (with_reducible refine (is_small _ _).mono ?_)
          rintro e w' ⟨rfl, rfl⟩
          go_wp2_with fail
          (with_reducible refine (HS.out _).mono ?_)
          rintro e w' ⟨rfl, rfl⟩
          go_wp2_with fail
          (with_reducible refine (K.out _ (hv.alloc _)).mono ?_)
          rintro e w1 ⟨⟨k, n, x, y, S, a, b, ok, rfl, hy, hno⟩, o1⟩
          have Y := Lib.hid hy
          have N := Lib.hid hno
          have O1 := Lib.hid (((Only.refl [] w).alloc (.cells Z7 27)).trans o1 (by simp))
          have B1 := Lib.hid (B0.out.only o1 (by simp))
          obtain ⟨q0, q1, q2, q3, q4, q5, q6⟩ := B1.out.seven
          have zf := B1.out.free
          clear o1 hy hno
          go_wp2_with fail
          refine bodyPost_ret (v := .tuple #[.agg (tcs k n x y S a b (.slice none 0 0)), .bool ok]) (by simp [results, Tryz.results121, go_sem, q0, q1, q2, q3, q4, q5, q6]) rfl ⟨by rw [R.out]; exact ⟨k, n, x, y, S, a, b, ok, rfl, Y.out, N.out⟩, ?_⟩
          exact O1.out.set7 (by omega)
        | false =>
          have R := Lib.hid (raw_int HL.out h1' e60 e35 hsf)
          have HS := Lib.hid (fun w => hasS_to s false w hs hsf)
          clear h1' e60 e35 hsf
          go_enter Tryz.func121, Tryz.ntmps121
          go_wp2_with fail
          (with_reducible refine (is_small _ _).mono ?_)
          rintro e w' ⟨rfl, rfl⟩
          go_wp2_with fail
          (with_reducible refine (HS.out _).mono ?_)
          rintro e w' ⟨rfl, rfl⟩
          go_wp2_with fail
          (with_reducible refine (number_any _ _ hs (hv.alloc _)).mono ?_)
          rintro e w1 ⟨n, b, rfl, o1, hy, hno⟩
          have Y := Lib.hid hy
          have N := Lib.hid hno
          have O1 := Lib.hid (((Only.refl [] w).alloc (.cells Z7 27)).trans o1 (by simp))
          have B1 := Lib.hid (B0.out.only o1 (by simp))
          obtain ⟨q0, q1, q2, q3, q4, q5, q6⟩ := B1.out.seven
          have zf := B1.out.free
          clear o1 hy hno
          go_wp2_with fail
          refine bodyPost_ret (v := .tuple #[.agg (tcs 3 n 0 0 ⟨#[]⟩ 0 0 (.slice none 0 0)), .bool b]) (by simp [results, Tryz.results121, go_sem, q0, q1, q2, q3, q4, q5, q6]) rfl ⟨by rw [R.out]; exact means_map Y.out N.out T.int 3 n rfl, ?_⟩
          exact O1.out.set7 (by omega)
end Go.Proofs.YtlilfmpikampgaaGreatDoor
