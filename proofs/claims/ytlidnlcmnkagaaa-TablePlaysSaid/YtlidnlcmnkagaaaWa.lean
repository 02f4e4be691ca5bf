/- The law's step: a table asked, all told, nothing. -/
import Derived.Test.YtlidnlcmnkagaaaJZ
import Derived.Test.YtlidnlcmnkagaaaJY
import Derived.Test.YtlidnlcmnkagaaaJW
namespace Go.Proofs.Ytlidnlcmnkagaaa
open Go.RowKit
set_option maxRecDepth 20000

theorem one_any {W w : World} {pb i : Nat} {C : Cl} {D : Nat → Gh} {L : List Pd} (P : PR W pb C D L w) (hi : i < 3) (o : Ox) (hk : o.kd = 2 ∨ o.kd = 3 ∨ o.kd = 4 ∨ o.kd = 5) (hos : o.s.size ≤ 140737488351232) (hL : (L.length + 1) * 16 ≤ 140737488355328) :
    Calls Try.prog 26 #[ptA pb, .int .i64 (i : Int), .agg o.cs] w (OneE W pb L) := by
  cases hh : C.h i with
  | false =>
    rcases hk with h | h | h | h
    · exact one_no2 P hi hh o h hos hL
    · exact one_no3 P hi hh o h hos hL
    · exact one_no4 P hi hh o h hos hL
    · exact one_no5 P hi hh o h hos hL
  | true =>
    rcases hk with h | h | h | h
    · exact one_yes2 P hi hh o h hos hL
    · exact one_yes3 P hi hh o h hos hL
    · exact one_yes4 P hi hh o h hos hL
    · exact one_yes5 P hi hh o h hos hL
set_option maxHeartbeats 16000000 in
theorem step_told {W w : World} {pb : Nat} {C : Cl} {D : Nat → Gh} {L : List Pd} (P : PR W pb C D L w) (o : Ox) (hk : o.kd = 8) (hos : o.s.size ≤ 140737488351232) (_hL : (L.length + 1) * 16 ≤ 140737488355328) :
    Calls Try.prog 7 #[ptA pb, .agg o.cs] w (OneE W pb L) := by
  obtain ⟨kd, on, at_, n, late, ⟨pn, pg⟩, s⟩ := o
  dsimp only at hk hos
  subst hk
  obtain ⟨i, hi, ei0⟩ := uint_mod 3 (by omega) (by omega) on
  obtain ⟨j, hj, ej0⟩ := uint_mod 3 (by omega) (by omega) at_
  have ei : wrap64 ((IntKind.u64.wrap on).tmod 3) = (i : Int) := ei0
  have ej : wrap64 ((IntKind.u64.wrap at_).tmod 3) = (j : Int) := ej0
  obtain ⟨W0, hW0⟩ : ∃ W0, W0 = w.alloc (.cells (Ox.mk 8 on at_ n late ⟨pn, pg⟩ s).cs tyO) := ⟨_, rfl⟩
  have b0 := (show Bk W0 w.heap.size tyO (Ox.mk 8 on at_ n late ⟨pn, pg⟩ s).cs from by rw [hW0]; exact Bk.made w _ _)
  have B0 := Lib.hid b0
  have O0 := (show Only [] w W0 from by rw [hW0]; exact (Only.refl [] w).alloc _)
  have P1 := Lib.hid (P.only O0)
  have HOS := Lib.hid hos
  have s0 := b0.cell0 (i := 0) (v := .int .i64 8) rfl
  have s1 := b0.cell0 (i := 1) (v := .int .i64 on) rfl
  have s2 := b0.cell0 (i := 2) (v := .int .i64 at_) rfl
  have s3 := b0.cell0 (i := 3) (v := .int .i64 n) rfl
  have pi : (i : Int) < 3 := by omega
  have pi0 : (0 : Int) ≤ (i : Int) := by omega
  have pj : (j : Int) < 3 := by omega
  have pj0 : (0 : Int) ≤ (j : Int) := by omega
  rw [hW0] at s0 s1 s2 s3
  clear P b0 O0 hos ei0 ej0
  go_enter Try.func7, Try.ntmps7
  go_wp2_with fail
  go_quiet (fail)
  rw [← hW0, ei, ej]
  have P2 := Lib.hid (P1.out.only ((Only.refl [] W0).drewN nq))
  have B2 := Lib.hid (B0.out.drewN nq)
  clear s0 s1 s2 s3 hW0 ei ej P1 B0
  generalize W0.drewN nq = W2 at *
  have s0 := B2.out.cell0 (i := 0) (v := .int .i64 8) rfl
  have K1 := Lib.hid (told_any P2.out hi)
  go_wp2_with fail
  (with_reducible refine K1.out.mono ?_)
  rintro e w4 ⟨rfl, p4⟩
  have P4 := Lib.hid p4
  clear p4 K1
  go_wp2_with fail
  go_ret
  exact ⟨rfl, C, D, L, P4.out, Nat.le_succ _⟩
set_option maxHeartbeats 16000000 in
theorem step_none {W w : World} {pb : Nat} {C : Cl} {D : Nat → Gh} {L : List Pd} (P : PR W pb C D L w) (o : Ox) (hk : o.kd ≠ 1 ∧ o.kd ≠ 2 ∧ o.kd ≠ 3 ∧ o.kd ≠ 4 ∧ o.kd ≠ 5 ∧ o.kd ≠ 6 ∧ o.kd ≠ 7 ∧ o.kd ≠ 8) (hos : o.s.size ≤ 140737488351232) (_hL : (L.length + 1) * 16 ≤ 140737488355328) :
    Calls Try.prog 7 #[ptA pb, .agg o.cs] w (OneE W pb L) := by
  have d1 : (o.kd == 1) = false := by simp; exact hk.1
  have d2 : (o.kd == 2) = false := by simp; exact hk.2.1
  have d3 : (o.kd == 3) = false := by simp; exact hk.2.2.1
  have d4 : (o.kd == 4) = false := by simp; exact hk.2.2.2.1
  have d5 : (o.kd == 5) = false := by simp; exact hk.2.2.2.2.1
  have d6 : (o.kd == 6) = false := by simp; exact hk.2.2.2.2.2.1
  have d7 : (o.kd == 7) = false := by simp; exact hk.2.2.2.2.2.2.1
  have d8 : (o.kd == 8) = false := by simp; exact hk.2.2.2.2.2.2.2
  obtain ⟨kd, on, at_, n, late, ⟨pn, pg⟩, s⟩ := o
  dsimp only at hk hos d1 d2 d3 d4 d5 d6 d7 d8
  clear hk
  obtain ⟨i, hi, ei0⟩ := uint_mod 3 (by omega) (by omega) on
  obtain ⟨j, hj, ej0⟩ := uint_mod 3 (by omega) (by omega) at_
  have ei : wrap64 ((IntKind.u64.wrap on).tmod 3) = (i : Int) := ei0
  have ej : wrap64 ((IntKind.u64.wrap at_).tmod 3) = (j : Int) := ej0
  obtain ⟨W0, hW0⟩ : ∃ W0, W0 = w.alloc (.cells (Ox.mk kd on at_ n late ⟨pn, pg⟩ s).cs tyO) := ⟨_, rfl⟩
  have b0 := (show Bk W0 w.heap.size tyO (Ox.mk kd on at_ n late ⟨pn, pg⟩ s).cs from by rw [hW0]; exact Bk.made w _ _)
  have B0 := Lib.hid b0
  have O0 := (show Only [] w W0 from by rw [hW0]; exact (Only.refl [] w).alloc _)
  have P1 := Lib.hid (P.only O0)
  have HOS := Lib.hid hos
  have s0 := b0.cell0 (i := 0) (v := .int .i64 kd) rfl
  have s1 := b0.cell0 (i := 1) (v := .int .i64 on) rfl
  have s2 := b0.cell0 (i := 2) (v := .int .i64 at_) rfl
  have s3 := b0.cell0 (i := 3) (v := .int .i64 n) rfl
  have pi : (i : Int) < 3 := by omega
  have pi0 : (0 : Int) ≤ (i : Int) := by omega
  have pj : (j : Int) < 3 := by omega
  have pj0 : (0 : Int) ≤ (j : Int) := by omega
  rw [hW0] at s0 s1 s2 s3
  clear P b0 O0 hos ei0 ej0
  go_enter Try.func7, Try.ntmps7
  go_wp2_with fail
  go_quiet (fail)
  rw [← hW0, ei, ej]
  have P2 := Lib.hid (P1.out.only ((Only.refl [] W0).drewN nq))
  have B2 := Lib.hid (B0.out.drewN nq)
  clear s0 s1 s2 s3 hW0 ei ej P1 B0
  generalize W0.drewN nq = W2 at *
  have s0 := B2.out.cell0 (i := 0) (v := .int .i64 kd) rfl
  go_wp2_with fail
  go_ret
  exact ⟨rfl, C, D, L, P2.out, Nat.le_succ _⟩
set_option maxHeartbeats 16000000 in
theorem step_one2 {W w : World} {pb : Nat} {C : Cl} {D : Nat → Gh} {L : List Pd} (P : PR W pb C D L w) (o : Ox) (hk : o.kd = 2) (hos : o.s.size ≤ 140737488351232) (hL : (L.length + 1) * 16 ≤ 140737488355328) :
    Calls Try.prog 7 #[ptA pb, .agg o.cs] w (OneE W pb L) := by
  obtain ⟨kd, on, at_, n, late, ⟨pn, pg⟩, s⟩ := o
  dsimp only at hk hos
  subst hk
  obtain ⟨i, hi, ei0⟩ := uint_mod 3 (by omega) (by omega) on
  obtain ⟨j, hj, ej0⟩ := uint_mod 3 (by omega) (by omega) at_
  have ei : wrap64 ((IntKind.u64.wrap on).tmod 3) = (i : Int) := ei0
  have ej : wrap64 ((IntKind.u64.wrap at_).tmod 3) = (j : Int) := ej0
  obtain ⟨W0, hW0⟩ : ∃ W0, W0 = w.alloc (.cells (Ox.mk 2 on at_ n late ⟨pn, pg⟩ s).cs tyO) := ⟨_, rfl⟩
  have b0 := (show Bk W0 w.heap.size tyO (Ox.mk 2 on at_ n late ⟨pn, pg⟩ s).cs from by rw [hW0]; exact Bk.made w _ _)
  have B0 := Lib.hid b0
  have O0 := (show Only [] w W0 from by rw [hW0]; exact (Only.refl [] w).alloc _)
  have P1 := Lib.hid (P.only O0)
  have HOS := Lib.hid hos
  have s0 := b0.cell0 (i := 0) (v := .int .i64 2) rfl
  have s1 := b0.cell0 (i := 1) (v := .int .i64 on) rfl
  have s2 := b0.cell0 (i := 2) (v := .int .i64 at_) rfl
  have s3 := b0.cell0 (i := 3) (v := .int .i64 n) rfl
  have pi : (i : Int) < 3 := by omega
  have pi0 : (0 : Int) ≤ (i : Int) := by omega
  have pj : (j : Int) < 3 := by omega
  have pj0 : (0 : Int) ≤ (j : Int) := by omega
  rw [hW0] at s0 s1 s2 s3
  clear P b0 O0 hos ei0 ej0
  go_enter Try.func7, Try.ntmps7
  go_wp2_with fail
  go_quiet (fail)
  rw [← hW0, ei, ej]
  have P2 := Lib.hid (P1.out.only ((Only.refl [] W0).drewN nq))
  have B2 := Lib.hid (B0.out.drewN nq)
  clear s0 s1 s2 s3 hW0 ei ej P1 B0
  generalize W0.drewN nq = W2 at *
  have s0 := B2.out.cell0 (i := 0) (v := .int .i64 2) rfl
  have K1 := Lib.hid (one_any P2.out hi ⟨2, on, at_, n, late, ⟨pn, pg⟩, s⟩ (by simp) HOS.out hL)
  have s1 := B2.out.cell0 (i := 1) (v := .int .i64 on) rfl
  have s2 := B2.out.cell0 (i := 2) (v := .int .i64 at_) rfl
  have s3 := B2.out.cell0 (i := 3) (v := .int .i64 n) rfl
  have s4 := B2.out.cell0 (i := 4) (v := .int .i64 late) rfl
  have s5 := B2.out.cell0 (i := 5) (v := .int .i64 pn) rfl
  have s6 := B2.out.cell0 (i := 6) (v := .int .i64 pg) rfl
  have s7 := B2.out.cell0 (i := 7) (v := .string s) rfl
  go_wp2_with fail
  (with_reducible refine K1.out.mono ?_)
  rintro e w4 ⟨rfl, h4⟩
  have H4 := Lib.hid h4
  clear h4 K1 s0 s1 s2 s3 s4 s5 s6 s7
  go_wp2_with fail
  go_ret
  exact ⟨rfl, H4.out⟩
set_option maxHeartbeats 16000000 in
theorem step_one3 {W w : World} {pb : Nat} {C : Cl} {D : Nat → Gh} {L : List Pd} (P : PR W pb C D L w) (o : Ox) (hk : o.kd = 3) (hos : o.s.size ≤ 140737488351232) (hL : (L.length + 1) * 16 ≤ 140737488355328) :
    Calls Try.prog 7 #[ptA pb, .agg o.cs] w (OneE W pb L) := by
  obtain ⟨kd, on, at_, n, late, ⟨pn, pg⟩, s⟩ := o
  dsimp only at hk hos
  subst hk
  obtain ⟨i, hi, ei0⟩ := uint_mod 3 (by omega) (by omega) on
  obtain ⟨j, hj, ej0⟩ := uint_mod 3 (by omega) (by omega) at_
  have ei : wrap64 ((IntKind.u64.wrap on).tmod 3) = (i : Int) := ei0
  have ej : wrap64 ((IntKind.u64.wrap at_).tmod 3) = (j : Int) := ej0
  obtain ⟨W0, hW0⟩ : ∃ W0, W0 = w.alloc (.cells (Ox.mk 3 on at_ n late ⟨pn, pg⟩ s).cs tyO) := ⟨_, rfl⟩
  have b0 := (show Bk W0 w.heap.size tyO (Ox.mk 3 on at_ n late ⟨pn, pg⟩ s).cs from by rw [hW0]; exact Bk.made w _ _)
  have B0 := Lib.hid b0
  have O0 := (show Only [] w W0 from by rw [hW0]; exact (Only.refl [] w).alloc _)
  have P1 := Lib.hid (P.only O0)
  have HOS := Lib.hid hos
  have s0 := b0.cell0 (i := 0) (v := .int .i64 3) rfl
  have s1 := b0.cell0 (i := 1) (v := .int .i64 on) rfl
  have s2 := b0.cell0 (i := 2) (v := .int .i64 at_) rfl
  have s3 := b0.cell0 (i := 3) (v := .int .i64 n) rfl
  have pi : (i : Int) < 3 := by omega
  have pi0 : (0 : Int) ≤ (i : Int) := by omega
  have pj : (j : Int) < 3 := by omega
  have pj0 : (0 : Int) ≤ (j : Int) := by omega
  rw [hW0] at s0 s1 s2 s3
  clear P b0 O0 hos ei0 ej0
  go_enter Try.func7, Try.ntmps7
  go_wp2_with fail
  go_quiet (fail)
  rw [← hW0, ei, ej]
  have P2 := Lib.hid (P1.out.only ((Only.refl [] W0).drewN nq))
  have B2 := Lib.hid (B0.out.drewN nq)
  clear s0 s1 s2 s3 hW0 ei ej P1 B0
  generalize W0.drewN nq = W2 at *
  have s0 := B2.out.cell0 (i := 0) (v := .int .i64 3) rfl
  have K1 := Lib.hid (one_any P2.out hi ⟨3, on, at_, n, late, ⟨pn, pg⟩, s⟩ (by simp) HOS.out hL)
  have s1 := B2.out.cell0 (i := 1) (v := .int .i64 on) rfl
  have s2 := B2.out.cell0 (i := 2) (v := .int .i64 at_) rfl
  have s3 := B2.out.cell0 (i := 3) (v := .int .i64 n) rfl
  have s4 := B2.out.cell0 (i := 4) (v := .int .i64 late) rfl
  have s5 := B2.out.cell0 (i := 5) (v := .int .i64 pn) rfl
  have s6 := B2.out.cell0 (i := 6) (v := .int .i64 pg) rfl
  have s7 := B2.out.cell0 (i := 7) (v := .string s) rfl
  go_wp2_with fail
  (with_reducible refine K1.out.mono ?_)
  rintro e w4 ⟨rfl, h4⟩
  have H4 := Lib.hid h4
  clear h4 K1 s0 s1 s2 s3 s4 s5 s6 s7
  go_wp2_with fail
  go_ret
  exact ⟨rfl, H4.out⟩
set_option maxHeartbeats 16000000 in
theorem step_one4 {W w : World} {pb : Nat} {C : Cl} {D : Nat → Gh} {L : List Pd} (P : PR W pb C D L w) (o : Ox) (hk : o.kd = 4) (hos : o.s.size ≤ 140737488351232) (hL : (L.length + 1) * 16 ≤ 140737488355328) :
    Calls Try.prog 7 #[ptA pb, .agg o.cs] w (OneE W pb L) := by
  obtain ⟨kd, on, at_, n, late, ⟨pn, pg⟩, s⟩ := o
  dsimp only at hk hos
  subst hk
  obtain ⟨i, hi, ei0⟩ := uint_mod 3 (by omega) (by omega) on
  obtain ⟨j, hj, ej0⟩ := uint_mod 3 (by omega) (by omega) at_
  have ei : wrap64 ((IntKind.u64.wrap on).tmod 3) = (i : Int) := ei0
  have ej : wrap64 ((IntKind.u64.wrap at_).tmod 3) = (j : Int) := ej0
  obtain ⟨W0, hW0⟩ : ∃ W0, W0 = w.alloc (.cells (Ox.mk 4 on at_ n late ⟨pn, pg⟩ s).cs tyO) := ⟨_, rfl⟩
  have b0 := (show Bk W0 w.heap.size tyO (Ox.mk 4 on at_ n late ⟨pn, pg⟩ s).cs from by rw [hW0]; exact Bk.made w _ _)
  have B0 := Lib.hid b0
  have O0 := (show Only [] w W0 from by rw [hW0]; exact (Only.refl [] w).alloc _)
  have P1 := Lib.hid (P.only O0)
  have HOS := Lib.hid hos
  have s0 := b0.cell0 (i := 0) (v := .int .i64 4) rfl
  have s1 := b0.cell0 (i := 1) (v := .int .i64 on) rfl
  have s2 := b0.cell0 (i := 2) (v := .int .i64 at_) rfl
  have s3 := b0.cell0 (i := 3) (v := .int .i64 n) rfl
  have pi : (i : Int) < 3 := by omega
  have pi0 : (0 : Int) ≤ (i : Int) := by omega
  have pj : (j : Int) < 3 := by omega
  have pj0 : (0 : Int) ≤ (j : Int) := by omega
  rw [hW0] at s0 s1 s2 s3
  clear P b0 O0 hos ei0 ej0
  go_enter Try.func7, Try.ntmps7
  go_wp2_with fail
  go_quiet (fail)
  rw [← hW0, ei, ej]
  have P2 := Lib.hid (P1.out.only ((Only.refl [] W0).drewN nq))
  have B2 := Lib.hid (B0.out.drewN nq)
  clear s0 s1 s2 s3 hW0 ei ej P1 B0
  generalize W0.drewN nq = W2 at *
  have s0 := B2.out.cell0 (i := 0) (v := .int .i64 4) rfl
  have K1 := Lib.hid (one_any P2.out hi ⟨4, on, at_, n, late, ⟨pn, pg⟩, s⟩ (by simp) HOS.out hL)
  have s1 := B2.out.cell0 (i := 1) (v := .int .i64 on) rfl
  have s2 := B2.out.cell0 (i := 2) (v := .int .i64 at_) rfl
  have s3 := B2.out.cell0 (i := 3) (v := .int .i64 n) rfl
  have s4 := B2.out.cell0 (i := 4) (v := .int .i64 late) rfl
  have s5 := B2.out.cell0 (i := 5) (v := .int .i64 pn) rfl
  have s6 := B2.out.cell0 (i := 6) (v := .int .i64 pg) rfl
  have s7 := B2.out.cell0 (i := 7) (v := .string s) rfl
  go_wp2_with fail
  (with_reducible refine K1.out.mono ?_)
  rintro e w4 ⟨rfl, h4⟩
  have H4 := Lib.hid h4
  clear h4 K1 s0 s1 s2 s3 s4 s5 s6 s7
  go_wp2_with fail
  go_ret
  exact ⟨rfl, H4.out⟩
set_option maxHeartbeats 16000000 in
theorem step_one5 {W w : World} {pb : Nat} {C : Cl} {D : Nat → Gh} {L : List Pd} (P : PR W pb C D L w) (o : Ox) (hk : o.kd = 5) (hos : o.s.size ≤ 140737488351232) (hL : (L.length + 1) * 16 ≤ 140737488355328) :
    Calls Try.prog 7 #[ptA pb, .agg o.cs] w (OneE W pb L) := by
  obtain ⟨kd, on, at_, n, late, ⟨pn, pg⟩, s⟩ := o
  dsimp only at hk hos
  subst hk
  obtain ⟨i, hi, ei0⟩ := uint_mod 3 (by omega) (by omega) on
  obtain ⟨j, hj, ej0⟩ := uint_mod 3 (by omega) (by omega) at_
  have ei : wrap64 ((IntKind.u64.wrap on).tmod 3) = (i : Int) := ei0
  have ej : wrap64 ((IntKind.u64.wrap at_).tmod 3) = (j : Int) := ej0
  obtain ⟨W0, hW0⟩ : ∃ W0, W0 = w.alloc (.cells (Ox.mk 5 on at_ n late ⟨pn, pg⟩ s).cs tyO) := ⟨_, rfl⟩
  have b0 := (show Bk W0 w.heap.size tyO (Ox.mk 5 on at_ n late ⟨pn, pg⟩ s).cs from by rw [hW0]; exact Bk.made w _ _)
  have B0 := Lib.hid b0
  have O0 := (show Only [] w W0 from by rw [hW0]; exact (Only.refl [] w).alloc _)
  have P1 := Lib.hid (P.only O0)
  have HOS := Lib.hid hos
  have s0 := b0.cell0 (i := 0) (v := .int .i64 5) rfl
  have s1 := b0.cell0 (i := 1) (v := .int .i64 on) rfl
  have s2 := b0.cell0 (i := 2) (v := .int .i64 at_) rfl
  have s3 := b0.cell0 (i := 3) (v := .int .i64 n) rfl
  have pi : (i : Int) < 3 := by omega
  have pi0 : (0 : Int) ≤ (i : Int) := by omega
  have pj : (j : Int) < 3 := by omega
  have pj0 : (0 : Int) ≤ (j : Int) := by omega
  rw [hW0] at s0 s1 s2 s3
  clear P b0 O0 hos ei0 ej0
  go_enter Try.func7, Try.ntmps7
  go_wp2_with fail
  go_quiet (fail)
  rw [← hW0, ei, ej]
  have P2 := Lib.hid (P1.out.only ((Only.refl [] W0).drewN nq))
  have B2 := Lib.hid (B0.out.drewN nq)
  clear s0 s1 s2 s3 hW0 ei ej P1 B0
  generalize W0.drewN nq = W2 at *
  have s0 := B2.out.cell0 (i := 0) (v := .int .i64 5) rfl
  have K1 := Lib.hid (one_any P2.out hi ⟨5, on, at_, n, late, ⟨pn, pg⟩, s⟩ (by simp) HOS.out hL)
  have s1 := B2.out.cell0 (i := 1) (v := .int .i64 on) rfl
  have s2 := B2.out.cell0 (i := 2) (v := .int .i64 at_) rfl
  have s3 := B2.out.cell0 (i := 3) (v := .int .i64 n) rfl
  have s4 := B2.out.cell0 (i := 4) (v := .int .i64 late) rfl
  have s5 := B2.out.cell0 (i := 5) (v := .int .i64 pn) rfl
  have s6 := B2.out.cell0 (i := 6) (v := .int .i64 pg) rfl
  have s7 := B2.out.cell0 (i := 7) (v := .string s) rfl
  go_wp2_with fail
  (with_reducible refine K1.out.mono ?_)
  rintro e w4 ⟨rfl, h4⟩
  have H4 := Lib.hid h4
  clear h4 K1 s0 s1 s2 s3 s4 s5 s6 s7
  go_wp2_with fail
  go_ret
  exact ⟨rfl, H4.out⟩
end Go.Proofs.Ytlidnlcmnkagaaa
