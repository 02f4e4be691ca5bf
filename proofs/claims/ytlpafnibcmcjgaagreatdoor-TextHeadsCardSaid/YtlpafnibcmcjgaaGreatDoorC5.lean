/- Which terms may be, the terms in them aside: the document's one. -/
import Derived.Test.YtlpafnibcmcjgaaGreatDoorMd
namespace Go.Proofs.YtlpafnibcmcjgaaGreatDoor
open Go.RowKit

theorem Bk.madeAt {w : World} {t : TypeId} {cs : Array Value} {b : Nat} (h : b = w.heap.size) : Bk (w.alloc (.cells cs t)) b t cs := by
  subst h
  exact Bk.made _ _ _
theorem Bk.seven {w : World} {b : Nat} {t : TypeId} {v0 v1 v2 v3 v4 v5 v6 : Value} (h : Bk w b t #[v0, v1, v2, v3, v4, v5, v6]) :
    w.cell? ⟨b, 0, none⟩ = some v0 ∧ w.cell? ⟨b, 1, none⟩ = some v1 ∧ w.cell? ⟨b, 2, none⟩ = some v2 ∧ w.cell? ⟨b, 3, none⟩ = some v3 ∧ w.cell? ⟨b, 4, none⟩ = some v4 ∧ w.cell? ⟨b, 5, none⟩ = some v5 ∧ w.cell? ⟨b, 6, none⟩ = some v6 :=
  ⟨h.cell0 rfl, h.cell0 rfl, h.cell0 rfl, h.cell0 rfl, h.cell0 rfl, h.cell0 rfl, h.cell0 rfl⟩
theorem rpid (a b : Int) (w : World) : Calls Tryz.prog 98 #[.agg #[.int .i64 a, .int .i64 b]] w fun e w' => e = .returned (.bool (okPid a b)) ∧ Only [] w w' := by
  go_enter Tryz.func98, Tryz.ntmps98
  go_wp2_with fail
  all_goals
    go_ret
    exact ⟨ret_bool (by rw [Bool.eq_iff_iff]; simp [okPid]; omega), (Only.refl _ _).alloc _⟩
theorem rzero (x y : Nat) (w : World) (r : Bool) (hr : ((FloatKind.f64.format.order x 0 == some .eq) && (FloatKind.f64.format.order y 0 == some .eq)) = r) : Calls Tryz.prog 99 #[.complex .f64 x y] w fun e w' => e = .returned (.bool r) ∧ w = w' := by
  go_enter Tryz.func99, Tryz.ntmps99
  go_wp2_with fail
  go_ret
  exact ⟨rfl, rfl⟩
theorem rwhole (n : Int) (w : World) (h : okPart n = true) : Calls Tryz.prog 96 #[.float .f64 (floatOfInt .f64 n)] w fun e w' => e = .returned (.bool true) ∧ w = w' := by
  have e1 := part_me h
  have hb := okPart_bd h
  have hc := fun w => run_convert_float_int (P := Tryz.prog) w 113 3 .f64 .i64 (floatOfInt .f64 n) n (by kernel_rfl) Tryz.underlying3 (toInt_fl n (by omega))
  by_cases h0 : n = 0
  · subst h0
    have z0 : FloatKind.f64.format.order 0 0 = some .eq := by decide
    have z1 : FloatKind.f64.format.order 0 13965662444475908096 = some .gt := by decide
    have z2 : FloatKind.f64.format.order 0 4742290407621132288 = some .lt := by decide
    have zf := fl_0
    rw [fl_0] at hc ⊢
    have zd : ∀ (w : World) (t : TypeId), (binOp .quo t (.float .f64 4607182418800017408) (.float .f64 0)).run Tryz.prog w = .ok (.float .f64 9218868437227405312) w := fun w t => run_float_arith w .quo t .f64 4607182418800017408 0 9218868437227405312 (by decide)
    have z3 : FloatKind.f64.format.order 9218868437227405312 0 = some .gt := by decide
    clear h e1
    go_enter Tryz.func96, Tryz.ntmps96
    go_wp2_with fail
    go_ret
    exact ⟨rfl, rfl⟩
  · have h2 := part_lo h
    have h3 := part_hi h
    have h4 := part_no h h0
    clear h h0 hb
    rcases h2 with h2 | h2 <;> rcases h3 with h3 | h3 <;> rcases h4 with h4 | h4
    all_goals
      go_enter Tryz.func96, Tryz.ntmps96
      go_wp2_with fail
      go_ret
      exact ⟨rfl, rfl⟩
theorem store_com (w : World) (a : Addr) (m : Mode) (k : FloatKind) (x y : Nat) : (store a (.complex k x y) m).run Tryz.prog w = stored Tryz.prog w a (.complex k x y) m := run_store Tryz.prog w a _ m rfl
theorem strEmpty (S : ByteArray) : (S.toList == S.toList) = true := by simp
theorem z64r : FloatKind.f64.format.order 0 0 = some .eq := by decide
theorem rzero0 (w : World) : Calls Tryz.prog 99 #[.complex .f64 0 0] w fun e w' => e = .returned (.bool true) ∧ w = w' := rzero 0 0 w true (by decide)
set_option maxHeartbeats 4000000 in
theorem one_nil (w : World) : Calls Tryz.prog 70 #[.agg (tcs 1 0 0 0 ⟨#[]⟩ 0 0 (.slice none 0 0))] w fun e w' => e = .returned (.bool true) ∧ Only [] w w' := by
  have e0 := eqPid 0 0 0 0
  have rs := store_com
  go_enter Tryz.func70, Tryz.ntmps70
  go_wp2_with fail
  (with_reducible refine (rzero0 _).mono ?_)
  rintro e w' ⟨rfl, rfl⟩
  go_wp2_with fail
  go_ret
  exact ⟨rfl, ((Only.refl _ _).alloc _).alloc _⟩
set_option maxHeartbeats 4000000 in
theorem one_bool (n : Int) (w : World) (hn : n = 0 ∨ n = 1) : Calls Tryz.prog 70 #[.agg (tcs 2 n 0 0 ⟨#[]⟩ 0 0 (.slice none 0 0))] w fun e w' => e = .returned (.bool true) ∧ Only [] w w' := by
  have e0 := eqPid 0 0 0 0
  have rs := store_com
  rcases hn with rfl | rfl
  all_goals
    go_enter Tryz.func70, Tryz.ntmps70
    go_wp2_with fail
    (with_reducible refine (rzero0 _).mono ?_)
    rintro e w' ⟨rfl, rfl⟩
    go_wp2_with fail
    go_ret
    exact ⟨rfl, ((Only.refl _ _).alloc _).alloc _⟩
set_option maxHeartbeats 4000000 in
theorem one_int (n : Int) (r : Bool) (w : World) (hr : OkI n = r) : Calls Tryz.prog 70 #[.agg (tcs 3 n 0 0 ⟨#[]⟩ 0 0 (.slice none 0 0))] w fun e w' => e = .returned (.bool r) ∧ Only [] w w' := by
  have e0 := eqPid 0 0 0 0
  have rs := store_com
  cases h1 : decide (-4611686018427387903 ≤ n) with
  | false =>
    have R := Lib.hid (show OkI n = false by simp only [OkI, h1]; rfl)
    subst hr
    go_enter Tryz.func70, Tryz.ntmps70
    go_wp2_with fail
    go_ret
    exact ⟨ret_bool R.out.symm, ((Only.refl _ _).alloc _).alloc _⟩
  | true =>
    cases h2 : decide (n ≤ 4611686018427387903) with
    | false =>
      have R := Lib.hid (show OkI n = false by simp only [OkI, h1, h2]; rfl)
      subst hr
      go_enter Tryz.func70, Tryz.ntmps70
      go_wp2_with fail
      go_ret
      exact ⟨ret_bool R.out.symm, ((Only.refl _ _).alloc _).alloc _⟩
    | true =>
      have R := Lib.hid (show OkI n = true by simp only [OkI, h1, h2]; rfl)
      subst hr
      go_enter Tryz.func70, Tryz.ntmps70
      go_wp2_with fail
      (with_reducible refine (rzero0 _).mono ?_)
      rintro e w' ⟨rfl, rfl⟩
      go_wp2_with fail
      go_ret
      exact ⟨ret_bool R.out.symm, ((Only.refl _ _).alloc _).alloc _⟩
set_option maxHeartbeats 4000000 in
theorem one_ref (n : Int) (r : Bool) (w : World) (hr : okCnt n = r) : Calls Tryz.prog 70 #[.agg (tcs 7 n 0 0 ⟨#[]⟩ 0 0 (.slice none 0 0))] w fun e w' => e = .returned (.bool r) ∧ Only [] w w' := by
  have e0 := eqPid 0 0 0 0
  have rs := store_com
  cases h1 : decide (1 ≤ n) with
  | false =>
    have R := Lib.hid (show okCnt n = false by simp only [okCnt, h1]; rfl)
    subst hr
    go_enter Tryz.func70, Tryz.ntmps70
    go_wp2_with fail
    go_ret
    exact ⟨ret_bool R.out.symm, ((Only.refl _ _).alloc _).alloc _⟩
  | true =>
    cases h2 : decide (n ≤ 4611686018427387903) with
    | false =>
      have R := Lib.hid (show okCnt n = false by simp only [okCnt, h1, h2]; rfl)
      subst hr
      go_enter Tryz.func70, Tryz.ntmps70
      go_wp2_with fail
      go_ret
      exact ⟨ret_bool R.out.symm, ((Only.refl _ _).alloc _).alloc _⟩
    | true =>
      have R := Lib.hid (show okCnt n = true by simp only [okCnt, h1, h2]; rfl)
      subst hr
      go_enter Tryz.func70, Tryz.ntmps70
      go_wp2_with fail
      (with_reducible refine (rzero0 _).mono ?_)
      rintro e w' ⟨rfl, rfl⟩
      go_wp2_with fail
      go_ret
      exact ⟨ret_bool R.out.symm, ((Only.refl _ _).alloc _).alloc _⟩
set_option maxHeartbeats 4000000 in
theorem one_atom (s : ByteArray) (r : Bool) (w : World) (hs : s.size ≤ 262144) (hr : atomOk (lst s) = r) : Calls Tryz.prog 70 #[.agg (tcs 5 0 0 0 s 0 0 (.slice none 0 0))] w fun e w' => e = .returned (.bool r) ∧ Only [] w w' := by
  have e0 := eqPid 0 0 0 0
  have rs := store_com
  have HA := Lib.hid (fun w => ratom s w hs)
  rw [hr] at HA
  clear hr
  cases r with
  | false =>
    go_enter Tryz.func70, Tryz.ntmps70
    go_wp2_with fail
    (with_reducible refine (HA.out _).mono ?_)
    rintro e w' ⟨rfl, rfl⟩
    go_wp2_with fail
    go_ret
    exact ⟨rfl, ((Only.refl _ _).alloc _).alloc _⟩
  | true =>
    go_enter Tryz.func70, Tryz.ntmps70
    go_wp2_with fail
    (with_reducible refine (HA.out _).mono ?_)
    rintro e w' ⟨rfl, rfl⟩
    go_wp2_with fail
    (with_reducible refine (rzero0 _).mono ?_)
    rintro e w' ⟨rfl, rfl⟩
    go_wp2_with fail
    go_ret
    exact ⟨rfl, ((Only.refl _ _).alloc _).alloc _⟩
set_option maxHeartbeats 4000000 in
theorem one_com (a b : Int) (w : World) (ha : okPart a = true) (hb : okPart b = true) : Calls Tryz.prog 70 #[.agg (tcs 4 0 (floatOfInt .f64 a) (floatOfInt .f64 b) ⟨#[]⟩ 0 0 (.slice none 0 0))] w fun e w' => e = .returned (.bool true) ∧ Only [] w w' := by
  have e0 := eqPid 0 0 0 0
  have rs := store_com
  have HA := Lib.hid (fun w => rwhole a w ha)
  have HB := Lib.hid (fun w => rwhole b w hb)
  clear ha hb
  generalize floatOfInt .f64 a = x at HA ⊢
  generalize floatOfInt .f64 b = y at HB ⊢
  go_enter Tryz.func70, Tryz.ntmps70
  go_wp2_with fail
  (with_reducible refine (HA.out _).mono ?_)
  rintro e w' ⟨rfl, rfl⟩
  go_wp2_with fail
  (with_reducible refine (HB.out _).mono ?_)
  rintro e w' ⟨rfl, rfl⟩
  go_wp2_with fail
  go_ret
  exact ⟨rfl, ((Only.refl _ _).alloc _).alloc _⟩
set_option maxHeartbeats 4000000 in
theorem one_pid (a b : Int) (r : Bool) (w : World) (hr : okPid a b = r) : Calls Tryz.prog 70 #[.agg (tcs 6 0 0 0 ⟨#[]⟩ a b (.slice none 0 0))] w fun e w' => e = .returned (.bool r) ∧ Only [] w w' := by
  have e0 := eqPid 0 0 0 0
  have rs := store_com
  have e1 := fun w => eqPid a b a b w
  simp only [beq_self_eq_true, Bool.and_self] at e1
  have HP := Lib.hid (fun w => rpid a b w)
  rw [hr] at HP
  have B1 := Lib.hid ((Bk.made w 27 (tcs 6 0 0 0 ⟨#[]⟩ a b (.slice none 0 0))).alloc (.cells (tcs 6 0 0 0 ⟨#[]⟩ a b (.slice none 0 0)) 27))
  have B2 := Lib.hid (Bk.madeAt (w := w.alloc (.cells (tcs 6 0 0 0 ⟨#[]⟩ a b (.slice none 0 0)) 27)) (t := 27) (cs := tcs 6 0 0 0 ⟨#[]⟩ a b (.slice none 0 0)) (b := w.heap.size + 1) (by simp))
  clear hr
  cases r with
  | false =>
    go_enter Tryz.func70, Tryz.ntmps70
    go_wp2_with fail
    (with_reducible refine (HP.out _).mono ?_)
    rintro e w1 ⟨rfl, o1⟩
    have O1 := Lib.hid ((((Only.refl [] w).alloc (.cells (tcs 6 0 0 0 ⟨#[]⟩ a b (.slice none 0 0)) 27)).alloc (.cells (tcs 6 0 0 0 ⟨#[]⟩ a b (.slice none 0 0)) 27)).trans o1 (by simp))
    obtain ⟨q0, q1, q2, q3, q4, q5, q6⟩ := (B1.out.only o1 (by simp)).seven
    obtain ⟨p0, p1, p2, p3, p4, p5, p6⟩ := (B2.out.only o1 (by simp)).seven
    clear o1
    go_wp2_with fail
    go_ret
    exact ⟨rfl, O1.out⟩
  | true =>
    go_enter Tryz.func70, Tryz.ntmps70
    go_wp2_with fail
    (with_reducible refine (HP.out _).mono ?_)
    rintro e w1 ⟨rfl, o1⟩
    have O1 := Lib.hid ((((Only.refl [] w).alloc (.cells (tcs 6 0 0 0 ⟨#[]⟩ a b (.slice none 0 0)) 27)).alloc (.cells (tcs 6 0 0 0 ⟨#[]⟩ a b (.slice none 0 0)) 27)).trans o1 (by simp))
    obtain ⟨q0, q1, q2, q3, q4, q5, q6⟩ := (B1.out.only o1 (by simp)).seven
    obtain ⟨p0, p1, p2, p3, p4, p5, p6⟩ := (B2.out.only o1 (by simp)).seven
    clear o1
    go_wp2_with fail
    (with_reducible refine (rzero0 _).mono ?_)
    rintro e w' ⟨rfl, rfl⟩
    go_wp2_with fail
    go_ret
    exact ⟨rfl, O1.out⟩
set_option maxHeartbeats 4000000 in
theorem one_tup (k : Int) (hk : k = 8 ∨ k = 9) (A : Option Addr) (n c : Nat) (w : World) : Calls Tryz.prog 70 #[.agg (tcs k 0 0 0 ⟨#[]⟩ 0 0 (.slice A n c))] w fun e w' => e = .returned (.bool true) ∧ Only [] w w' := by
  have e0 := eqPid 0 0 0 0
  have rs := store_com
  rcases hk with rfl | rfl
  all_goals
    go_enter Tryz.func70, Tryz.ntmps70
    go_wp2_with fail
    (with_reducible refine (rzero0 _).mono ?_)
    rintro e w' ⟨rfl, rfl⟩
    go_wp2_with fail
    go_ret
    exact ⟨rfl, ((Only.refl _ _).alloc _).alloc _⟩
end Go.Proofs.YtlpafnibcmcjgaaGreatDoor
