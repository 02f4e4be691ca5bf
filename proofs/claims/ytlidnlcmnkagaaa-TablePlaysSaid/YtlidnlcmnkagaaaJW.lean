/- The law's one: of a table that there is not. -/
import Derived.Test.YtlidnlcmnkagaaaJV
namespace Go.Proofs.Ytlidnlcmnkagaaa
open Go.RowKit
set_option maxRecDepth 20000

set_option maxHeartbeats 16000000 in
theorem one_no2 {W w : World} {pb i : Nat} {C : Cl} {D : Nat → Gh} {L : List Pd} (P : PR W pb C D L w) (hi : i < 3) (hh : C.h i = false) (o : Ox) (hk : o.kd = 2) (hos : o.s.size ≤ 140737488351232) (hL : (L.length + 1) * 16 ≤ 140737488355328) :
    Calls Try.prog 26 #[ptA pb, .int .i64 (i : Int), .agg o.cs] w (OneE W pb L) := by
  obtain ⟨kd, on, at_, n, late, ⟨pn, pg⟩, s⟩ := o
  dsimp only at hk hos
  subst hk
  have pi : (i : Int) < 3 := by omega
  have pi0 : (0 : Int) ≤ (i : Int) := by omega
  rcases P.sd i hi with ⟨-, et, -⟩ | ⟨h1, -⟩
  case inr => rw [hh] at h1; cases h1
  have P0 := Lib.hid P
  have HOS := Lib.hid hos
  obtain ⟨W0, hW0⟩ : ∃ W0, W0 = w.alloc (.cells (Ox.mk 2 on at_ n late ⟨pn, pg⟩ s).cs tyO) := ⟨_, rfl⟩
  obtain ⟨W1, hW1⟩ : ∃ W1, W1 = W0.alloc (.cells (⟨pn, pg⟩ : Pd).cs 38) := ⟨_, rfl⟩
  have O0 := Lib.hid (show Only [] w W0 from by rw [hW0]; exact (Only.refl [] w).alloc _)
  have O01 := Lib.hid (show Only [] W0 W1 from by rw [hW1]; exact (Only.refl [] W0).alloc _)
  have Q1 := Lib.hid (show QR w.heap.size ⟨2, on, at_, n, late, ⟨pn, pg⟩, s⟩ ⟨pn, pg⟩ W1 from by rw [hW1, hW0]; exact ⟨(Bk.made w _ _).alloc _, Bk.newAt (by simp)⟩)
  have t0 := (play_at (P.only O0.out).blk hi).1
  rw [et] at t0
  have P1 := Lib.hid ((P.only O0.out).only O01.out)
  obtain ⟨AL, cL, eL, -, -, rL, -⟩ := P1.out.giv.form
  have RL := Lib.hid rL
  have gL : W1.cell? ⟨pb, 18, none⟩ = some C.g := P1.out.blk.cell0 (i := 18) rfl
  rw [eL] at gL
  have EL := Lib.hid eL
  have s4 := Q1.out.bo.cell0 (i := 4) (v := .int .i64 late) rfl
  have b0 := (show Bk W0 w.heap.size tyO (Ox.mk 2 on at_ n late ⟨pn, pg⟩ s).cs from by rw [hW0]; exact Bk.made w _ _)
  have s5 := b0.cell0 (i := 5) (v := .int .i64 pn) rfl
  have s6 := b0.cell0 (i := 6) (v := .int .i64 pg) rfl
  rw [hW0] at t0 s5 s6
  have HH := Lib.hid hh
  clear P rL b0  et eL hos hh
  go_enter Try.func26, Try.ntmps26
  go_wp2_with fail
  rw [← hW0]
  rw [← hW1]
  have HW1 := Lib.hid hW1
  have HW0 := Lib.hid hW0
  clear t0 s5 s6 hW0 hW1
  go_cut [44] from 24 to 44 (fun v44 wx => v44 = .bool (decide (0 ≤ late) && decide (late < (L.length : Int))) ∧ ∃ n, wx = W1.drewN n)
  case first =>
    by_cases h1 : 0 ≤ late
    · have d1 : decide (0 ≤ late) = true := decide_eq_true h1
      go_quiet (fail)
      go_wp2_with fail
      go_meet
      exact ⟨by rw [d1, Bool.true_and], _, rfl⟩
    · have d1 : decide (0 ≤ late) = false := decide_eq_false h1
      go_quiet (fail)
      go_wp2_with fail
      go_meet
      exact ⟨by rw [d1, Bool.false_and], _, rfl⟩
  case rest =>
    obtain ⟨rfl, q1, rfl⟩ := hcut
    have P2 := Lib.hid (P1.out.only ((Only.refl [] W1).drewN q1))
    have Q2 := Lib.hid (Q1.out.only ((Only.refl [] W1).drewN q1) (by simp) (by simp))
    have O2 := Lib.hid ((O0.out.trans O01.out (by simp)).drewN q1)
    have RL2 := Lib.hid (RL.out.only0 ((Only.refl [] W1).drewN q1))
    clear s4 gL P1 Q1 RL O01 O0
    generalize W1.drewN q1 = W2 at *
    have hLL : (L.length : Int) ≤ 17592186044416 := by omega
    obtain ⟨lt, hlt⟩ : ∃ lt, lt = (decide (0 ≤ late) && decide (late < (L.length : Int))) := ⟨_, rfl⟩
    rw [← hlt]
    have HLT := Lib.hid hlt
    clear hlt
    go_upto_if 44 with fail
    go_cut [44] from 24 to 52 (fun _ wx => ∃ q : Pd, QR w.heap.size ⟨2, on, at_, n, late, ⟨pn, pg⟩, s⟩ q wx ∧ Only [] w wx)
    case first =>
      cases lt with
      | false =>
        go_wp2_with fail
        go_meet
        exact ⟨_, Q2.out, O2.out⟩
      | true =>
        have h2 := HLT.out.symm
        rw [Bool.and_eq_true, decide_eq_true_eq, decide_eq_true_eq] at h2
        obtain ⟨h2, h3⟩ := h2
        obtain ⟨j, rfl⟩ := Int.eq_ofNat_of_zero_le h2
        have hj : j < L.length := by omega
        obtain ⟨q, hq⟩ := some_at hj
        obtain ⟨bl, off, rfl, hb, hc⟩ := RdP.at2 RL2.out (by omega)
        obtain ⟨c0, c1⟩ := hc j q hq
        obtain ⟨qn, qg⟩ := q
        have gL : W2.cell? ⟨pb, 18, none⟩ = some C.g := P2.out.blk.cell0 (i := 18) rfl
        rw [EL.out] at gL
        have s4 := Q2.out.bo.cell0 (i := 4) (v := .int .i64 (j : Int)) rfl
        obtain ⟨p0, p1⟩ := Q2.out.bq.pid
        have pf := Q2.out.bq.free
        dsimp only at c0 c1
        have hs := Q2.out.bq.lt
        have N2 := Lib.hid (fun k : Nat => show QR w.heap.size ⟨2, on, at_, n, (j : Int), ⟨pn, pg⟩, s⟩ ⟨qn, qg⟩ (((W2.drewN k).setCell ⟨w.heap.size + 1, 0, none⟩ (.int .i64 qn)).setCell ⟨w.heap.size + 1, 1, none⟩ (.int .i64 qg)) ∧ Only [] w (((W2.drewN k).setCell ⟨w.heap.size + 1, 0, none⟩ (.int .i64 qn)).setCell ⟨w.heap.size + 1, 1, none⟩ (.int .i64 qg)) from
          ⟨⟨(((Q2.out.bo.drewN k).away (p := ⟨w.heap.size + 1, 0, none⟩) (by show w.heap.size ≠ w.heap.size + 1; omega) _).away (p := ⟨w.heap.size + 1, 1, none⟩) (by show w.heap.size ≠ w.heap.size + 1; omega) _), ((Q2.out.bq.drewN k).set 0 (.int .i64 qn)).set 1 (.int .i64 qg)⟩,
            (((O2.out.drewN k).set (p := ⟨w.heap.size + 1, 0, none⟩) (.inr (by show w.heap.size ≤ w.heap.size + 1; omega)) _).set (p := ⟨w.heap.size + 1, 1, none⟩) (.inr (by show w.heap.size ≤ w.heap.size + 1; omega)) _)⟩)
        clear hc hb hq h2 HLT
        go_wp2_with fail
        refine wp_region_quiet_then 8 (by kernel_rfl) (by kernel_rfl) ?_
        simp only [List.take_succ_cons, List.take_zero, List.drop_succ_cons, List.drop_zero]
        repeat (go_big_quiet_step (fail))
        refine wpQuiet_nil ?_
        intro q9
        go_wp2_with fail
        go_meet
        exact ⟨_, N2.out q9⟩
    case rest =>
      obtain ⟨⟨qn, qg⟩, q3, o3⟩ := hcut
      have Q3 := Lib.hid q3
      have O3 := Lib.hid o3
      have P3 := Lib.hid (P0.out.only o3)
      have x0 := q3.bo.cell0 (i := 0) (v := .int .i64 2) rfl
      clear q3 o3 RL2 P2 Q2 O2 HLT
      have K1 := Lib.hid (add_nil wc)
      go_wp2_with fail
      (with_reducible refine K1.out.mono ?_)
      rintro e w4 ⟨rfl, o4⟩
      have o5 := o4.alloc (.cells #[.int .i64 0, .int .i64 0] 38)
      have P5 := Lib.hid (P3.out.only o5)
      have y1 := (play_at P5.out.blk hi).2.2.2.2.2
      rw [HH.out] at y1
      have b5 := Bk.made w4 38 #[.int .i64 0, .int .i64 0]
      have z0 := b5.cell0 (i := 0) rfl
      have z1 := b5.cell0 (i := 1) rfl
      have hE : eq2 0 0 0 0 = true := rfl
      clear o4 o5 K1 b5
      go_wp2_with fail
      go_ret
      exact ⟨rfl, C, D, L, P5.out, Nat.le_succ _⟩
set_option maxHeartbeats 16000000 in
theorem one_no3 {W w : World} {pb i : Nat} {C : Cl} {D : Nat → Gh} {L : List Pd} (P : PR W pb C D L w) (hi : i < 3) (hh : C.h i = false) (o : Ox) (hk : o.kd = 3) (hos : o.s.size ≤ 140737488351232) (hL : (L.length + 1) * 16 ≤ 140737488355328) :
    Calls Try.prog 26 #[ptA pb, .int .i64 (i : Int), .agg o.cs] w (OneE W pb L) := by
  obtain ⟨kd, on, at_, n, late, ⟨pn, pg⟩, s⟩ := o
  dsimp only at hk hos
  subst hk
  have pi : (i : Int) < 3 := by omega
  have pi0 : (0 : Int) ≤ (i : Int) := by omega
  rcases P.sd i hi with ⟨-, et, -⟩ | ⟨h1, -⟩
  case inr => rw [hh] at h1; cases h1
  have P0 := Lib.hid P
  have HOS := Lib.hid hos
  obtain ⟨W0, hW0⟩ : ∃ W0, W0 = w.alloc (.cells (Ox.mk 3 on at_ n late ⟨pn, pg⟩ s).cs tyO) := ⟨_, rfl⟩
  obtain ⟨W1, hW1⟩ : ∃ W1, W1 = W0.alloc (.cells (⟨pn, pg⟩ : Pd).cs 38) := ⟨_, rfl⟩
  have O0 := Lib.hid (show Only [] w W0 from by rw [hW0]; exact (Only.refl [] w).alloc _)
  have O01 := Lib.hid (show Only [] W0 W1 from by rw [hW1]; exact (Only.refl [] W0).alloc _)
  have Q1 := Lib.hid (show QR w.heap.size ⟨3, on, at_, n, late, ⟨pn, pg⟩, s⟩ ⟨pn, pg⟩ W1 from by rw [hW1, hW0]; exact ⟨(Bk.made w _ _).alloc _, Bk.newAt (by simp)⟩)
  have t0 := (play_at (P.only O0.out).blk hi).1
  rw [et] at t0
  have P1 := Lib.hid ((P.only O0.out).only O01.out)
  obtain ⟨AL, cL, eL, -, -, rL, -⟩ := P1.out.giv.form
  have RL := Lib.hid rL
  have gL : W1.cell? ⟨pb, 18, none⟩ = some C.g := P1.out.blk.cell0 (i := 18) rfl
  rw [eL] at gL
  have EL := Lib.hid eL
  have s4 := Q1.out.bo.cell0 (i := 4) (v := .int .i64 late) rfl
  have b0 := (show Bk W0 w.heap.size tyO (Ox.mk 3 on at_ n late ⟨pn, pg⟩ s).cs from by rw [hW0]; exact Bk.made w _ _)
  have s5 := b0.cell0 (i := 5) (v := .int .i64 pn) rfl
  have s6 := b0.cell0 (i := 6) (v := .int .i64 pg) rfl
  rw [hW0] at t0 s5 s6
  have HH := Lib.hid hh
  clear P rL b0  et eL hos hh
  go_enter Try.func26, Try.ntmps26
  go_wp2_with fail
  rw [← hW0]
  rw [← hW1]
  have HW1 := Lib.hid hW1
  have HW0 := Lib.hid hW0
  clear t0 s5 s6 hW0 hW1
  go_cut [44] from 24 to 44 (fun v44 wx => v44 = .bool (decide (0 ≤ late) && decide (late < (L.length : Int))) ∧ ∃ n, wx = W1.drewN n)
  case first =>
    by_cases h1 : 0 ≤ late
    · have d1 : decide (0 ≤ late) = true := decide_eq_true h1
      go_quiet (fail)
      go_wp2_with fail
      go_meet
      exact ⟨by rw [d1, Bool.true_and], _, rfl⟩
    · have d1 : decide (0 ≤ late) = false := decide_eq_false h1
      go_quiet (fail)
      go_wp2_with fail
      go_meet
      exact ⟨by rw [d1, Bool.false_and], _, rfl⟩
  case rest =>
    obtain ⟨rfl, q1, rfl⟩ := hcut
    have P2 := Lib.hid (P1.out.only ((Only.refl [] W1).drewN q1))
    have Q2 := Lib.hid (Q1.out.only ((Only.refl [] W1).drewN q1) (by simp) (by simp))
    have O2 := Lib.hid ((O0.out.trans O01.out (by simp)).drewN q1)
    have RL2 := Lib.hid (RL.out.only0 ((Only.refl [] W1).drewN q1))
    clear s4 gL P1 Q1 RL O01 O0
    generalize W1.drewN q1 = W2 at *
    have hLL : (L.length : Int) ≤ 17592186044416 := by omega
    obtain ⟨lt, hlt⟩ : ∃ lt, lt = (decide (0 ≤ late) && decide (late < (L.length : Int))) := ⟨_, rfl⟩
    rw [← hlt]
    have HLT := Lib.hid hlt
    clear hlt
    go_upto_if 44 with fail
    go_cut [44] from 24 to 52 (fun _ wx => ∃ q : Pd, QR w.heap.size ⟨3, on, at_, n, late, ⟨pn, pg⟩, s⟩ q wx ∧ Only [] w wx)
    case first =>
      cases lt with
      | false =>
        go_wp2_with fail
        go_meet
        exact ⟨_, Q2.out, O2.out⟩
      | true =>
        have h2 := HLT.out.symm
        rw [Bool.and_eq_true, decide_eq_true_eq, decide_eq_true_eq] at h2
        obtain ⟨h2, h3⟩ := h2
        obtain ⟨j, rfl⟩ := Int.eq_ofNat_of_zero_le h2
        have hj : j < L.length := by omega
        obtain ⟨q, hq⟩ := some_at hj
        obtain ⟨bl, off, rfl, hb, hc⟩ := RdP.at2 RL2.out (by omega)
        obtain ⟨c0, c1⟩ := hc j q hq
        obtain ⟨qn, qg⟩ := q
        have gL : W2.cell? ⟨pb, 18, none⟩ = some C.g := P2.out.blk.cell0 (i := 18) rfl
        rw [EL.out] at gL
        have s4 := Q2.out.bo.cell0 (i := 4) (v := .int .i64 (j : Int)) rfl
        obtain ⟨p0, p1⟩ := Q2.out.bq.pid
        have pf := Q2.out.bq.free
        dsimp only at c0 c1
        have hs := Q2.out.bq.lt
        have N2 := Lib.hid (fun k : Nat => show QR w.heap.size ⟨3, on, at_, n, (j : Int), ⟨pn, pg⟩, s⟩ ⟨qn, qg⟩ (((W2.drewN k).setCell ⟨w.heap.size + 1, 0, none⟩ (.int .i64 qn)).setCell ⟨w.heap.size + 1, 1, none⟩ (.int .i64 qg)) ∧ Only [] w (((W2.drewN k).setCell ⟨w.heap.size + 1, 0, none⟩ (.int .i64 qn)).setCell ⟨w.heap.size + 1, 1, none⟩ (.int .i64 qg)) from
          ⟨⟨(((Q2.out.bo.drewN k).away (p := ⟨w.heap.size + 1, 0, none⟩) (by show w.heap.size ≠ w.heap.size + 1; omega) _).away (p := ⟨w.heap.size + 1, 1, none⟩) (by show w.heap.size ≠ w.heap.size + 1; omega) _), ((Q2.out.bq.drewN k).set 0 (.int .i64 qn)).set 1 (.int .i64 qg)⟩,
            (((O2.out.drewN k).set (p := ⟨w.heap.size + 1, 0, none⟩) (.inr (by show w.heap.size ≤ w.heap.size + 1; omega)) _).set (p := ⟨w.heap.size + 1, 1, none⟩) (.inr (by show w.heap.size ≤ w.heap.size + 1; omega)) _)⟩)
        clear hc hb hq h2 HLT
        go_wp2_with fail
        refine wp_region_quiet_then 8 (by kernel_rfl) (by kernel_rfl) ?_
        simp only [List.take_succ_cons, List.take_zero, List.drop_succ_cons, List.drop_zero]
        repeat (go_big_quiet_step (fail))
        refine wpQuiet_nil ?_
        intro q9
        go_wp2_with fail
        go_meet
        exact ⟨_, N2.out q9⟩
    case rest =>
      obtain ⟨⟨qn, qg⟩, q3, o3⟩ := hcut
      have Q3 := Lib.hid q3
      have O3 := Lib.hid o3
      have P3 := Lib.hid (P0.out.only o3)
      have x0 := q3.bo.cell0 (i := 0) (v := .int .i64 3) rfl
      clear q3 o3 RL2 P2 Q2 O2 HLT
      have K1 := Lib.hid (free_nil ⟨qn, qg⟩ wc)
      have x1 := Q3.out.bq.pid
      go_wp2_with fail
      (with_reducible refine K1.out.mono ?_)
      rintro e w4 ⟨rfl, o4⟩
      have P5 := Lib.hid (P3.out.only o4)
      have y1 := (play_at P5.out.blk hi).2.2.2.2.2
      rw [HH.out] at y1
      clear o4 K1
      go_wp2_with fail
      go_ret
      exact ⟨rfl, C, D, L, P5.out, Nat.le_succ _⟩
set_option maxHeartbeats 16000000 in
theorem one_no4 {W w : World} {pb i : Nat} {C : Cl} {D : Nat → Gh} {L : List Pd} (P : PR W pb C D L w) (hi : i < 3) (hh : C.h i = false) (o : Ox) (hk : o.kd = 4) (hos : o.s.size ≤ 140737488351232) (hL : (L.length + 1) * 16 ≤ 140737488355328) :
    Calls Try.prog 26 #[ptA pb, .int .i64 (i : Int), .agg o.cs] w (OneE W pb L) := by
  obtain ⟨kd, on, at_, n, late, ⟨pn, pg⟩, s⟩ := o
  dsimp only at hk hos
  subst hk
  have pi : (i : Int) < 3 := by omega
  have pi0 : (0 : Int) ≤ (i : Int) := by omega
  rcases P.sd i hi with ⟨-, et, -⟩ | ⟨h1, -⟩
  case inr => rw [hh] at h1; cases h1
  have P0 := Lib.hid P
  have HOS := Lib.hid hos
  obtain ⟨W0, hW0⟩ : ∃ W0, W0 = w.alloc (.cells (Ox.mk 4 on at_ n late ⟨pn, pg⟩ s).cs tyO) := ⟨_, rfl⟩
  obtain ⟨W1, hW1⟩ : ∃ W1, W1 = W0.alloc (.cells (⟨pn, pg⟩ : Pd).cs 38) := ⟨_, rfl⟩
  have O0 := Lib.hid (show Only [] w W0 from by rw [hW0]; exact (Only.refl [] w).alloc _)
  have O01 := Lib.hid (show Only [] W0 W1 from by rw [hW1]; exact (Only.refl [] W0).alloc _)
  have Q1 := Lib.hid (show QR w.heap.size ⟨4, on, at_, n, late, ⟨pn, pg⟩, s⟩ ⟨pn, pg⟩ W1 from by rw [hW1, hW0]; exact ⟨(Bk.made w _ _).alloc _, Bk.newAt (by simp)⟩)
  have t0 := (play_at (P.only O0.out).blk hi).1
  rw [et] at t0
  have P1 := Lib.hid ((P.only O0.out).only O01.out)
  obtain ⟨AL, cL, eL, -, -, rL, -⟩ := P1.out.giv.form
  have RL := Lib.hid rL
  have gL : W1.cell? ⟨pb, 18, none⟩ = some C.g := P1.out.blk.cell0 (i := 18) rfl
  rw [eL] at gL
  have EL := Lib.hid eL
  have s4 := Q1.out.bo.cell0 (i := 4) (v := .int .i64 late) rfl
  have b0 := (show Bk W0 w.heap.size tyO (Ox.mk 4 on at_ n late ⟨pn, pg⟩ s).cs from by rw [hW0]; exact Bk.made w _ _)
  have s5 := b0.cell0 (i := 5) (v := .int .i64 pn) rfl
  have s6 := b0.cell0 (i := 6) (v := .int .i64 pg) rfl
  rw [hW0] at t0 s5 s6
  have HH := Lib.hid hh
  clear P rL b0  et eL hos hh
  go_enter Try.func26, Try.ntmps26
  go_wp2_with fail
  rw [← hW0]
  rw [← hW1]
  have HW1 := Lib.hid hW1
  have HW0 := Lib.hid hW0
  clear t0 s5 s6 hW0 hW1
  go_cut [44] from 24 to 44 (fun v44 wx => v44 = .bool (decide (0 ≤ late) && decide (late < (L.length : Int))) ∧ ∃ n, wx = W1.drewN n)
  case first =>
    by_cases h1 : 0 ≤ late
    · have d1 : decide (0 ≤ late) = true := decide_eq_true h1
      go_quiet (fail)
      go_wp2_with fail
      go_meet
      exact ⟨by rw [d1, Bool.true_and], _, rfl⟩
    · have d1 : decide (0 ≤ late) = false := decide_eq_false h1
      go_quiet (fail)
      go_wp2_with fail
      go_meet
      exact ⟨by rw [d1, Bool.false_and], _, rfl⟩
  case rest =>
    obtain ⟨rfl, q1, rfl⟩ := hcut
    have P2 := Lib.hid (P1.out.only ((Only.refl [] W1).drewN q1))
    have Q2 := Lib.hid (Q1.out.only ((Only.refl [] W1).drewN q1) (by simp) (by simp))
    have O2 := Lib.hid ((O0.out.trans O01.out (by simp)).drewN q1)
    have RL2 := Lib.hid (RL.out.only0 ((Only.refl [] W1).drewN q1))
    clear s4 gL P1 Q1 RL O01 O0
    generalize W1.drewN q1 = W2 at *
    have hLL : (L.length : Int) ≤ 17592186044416 := by omega
    obtain ⟨lt, hlt⟩ : ∃ lt, lt = (decide (0 ≤ late) && decide (late < (L.length : Int))) := ⟨_, rfl⟩
    rw [← hlt]
    have HLT := Lib.hid hlt
    clear hlt
    go_upto_if 44 with fail
    go_cut [44] from 24 to 52 (fun _ wx => ∃ q : Pd, QR w.heap.size ⟨4, on, at_, n, late, ⟨pn, pg⟩, s⟩ q wx ∧ Only [] w wx)
    case first =>
      cases lt with
      | false =>
        go_wp2_with fail
        go_meet
        exact ⟨_, Q2.out, O2.out⟩
      | true =>
        have h2 := HLT.out.symm
        rw [Bool.and_eq_true, decide_eq_true_eq, decide_eq_true_eq] at h2
        obtain ⟨h2, h3⟩ := h2
        obtain ⟨j, rfl⟩ := Int.eq_ofNat_of_zero_le h2
        have hj : j < L.length := by omega
        obtain ⟨q, hq⟩ := some_at hj
        obtain ⟨bl, off, rfl, hb, hc⟩ := RdP.at2 RL2.out (by omega)
        obtain ⟨c0, c1⟩ := hc j q hq
        obtain ⟨qn, qg⟩ := q
        have gL : W2.cell? ⟨pb, 18, none⟩ = some C.g := P2.out.blk.cell0 (i := 18) rfl
        rw [EL.out] at gL
        have s4 := Q2.out.bo.cell0 (i := 4) (v := .int .i64 (j : Int)) rfl
        obtain ⟨p0, p1⟩ := Q2.out.bq.pid
        have pf := Q2.out.bq.free
        dsimp only at c0 c1
        have hs := Q2.out.bq.lt
        have N2 := Lib.hid (fun k : Nat => show QR w.heap.size ⟨4, on, at_, n, (j : Int), ⟨pn, pg⟩, s⟩ ⟨qn, qg⟩ (((W2.drewN k).setCell ⟨w.heap.size + 1, 0, none⟩ (.int .i64 qn)).setCell ⟨w.heap.size + 1, 1, none⟩ (.int .i64 qg)) ∧ Only [] w (((W2.drewN k).setCell ⟨w.heap.size + 1, 0, none⟩ (.int .i64 qn)).setCell ⟨w.heap.size + 1, 1, none⟩ (.int .i64 qg)) from
          ⟨⟨(((Q2.out.bo.drewN k).away (p := ⟨w.heap.size + 1, 0, none⟩) (by show w.heap.size ≠ w.heap.size + 1; omega) _).away (p := ⟨w.heap.size + 1, 1, none⟩) (by show w.heap.size ≠ w.heap.size + 1; omega) _), ((Q2.out.bq.drewN k).set 0 (.int .i64 qn)).set 1 (.int .i64 qg)⟩,
            (((O2.out.drewN k).set (p := ⟨w.heap.size + 1, 0, none⟩) (.inr (by show w.heap.size ≤ w.heap.size + 1; omega)) _).set (p := ⟨w.heap.size + 1, 1, none⟩) (.inr (by show w.heap.size ≤ w.heap.size + 1; omega)) _)⟩)
        clear hc hb hq h2 HLT
        go_wp2_with fail
        refine wp_region_quiet_then 8 (by kernel_rfl) (by kernel_rfl) ?_
        simp only [List.take_succ_cons, List.take_zero, List.drop_succ_cons, List.drop_zero]
        repeat (go_big_quiet_step (fail))
        refine wpQuiet_nil ?_
        intro q9
        go_wp2_with fail
        go_meet
        exact ⟨_, N2.out q9⟩
    case rest =>
      obtain ⟨⟨qn, qg⟩, q3, o3⟩ := hcut
      have Q3 := Lib.hid q3
      have O3 := Lib.hid o3
      have P3 := Lib.hid (P0.out.only o3)
      have x0 := q3.bo.cell0 (i := 0) (v := .int .i64 4) rfl
      clear q3 o3 RL2 P2 Q2 O2 HLT
      have K1 := Lib.hid (name_nil ⟨qn, qg⟩ s wc)
      have x1 := Q3.out.bq.pid
      have x2 := Q3.out.bo.cell0 (i := 7) (v := .string s) rfl
      go_wp2_with fail
      (with_reducible refine K1.out.mono ?_)
      rintro e w4 ⟨rfl, o4⟩
      have P5 := Lib.hid (P3.out.only o4)
      have y1 := (play_at P5.out.blk hi).2.2.2.2.2
      rw [HH.out] at y1
      clear o4 K1
      go_wp2_with fail
      go_ret
      exact ⟨rfl, C, D, L, P5.out, Nat.le_succ _⟩
set_option maxHeartbeats 16000000 in
theorem one_no5 {W w : World} {pb i : Nat} {C : Cl} {D : Nat → Gh} {L : List Pd} (P : PR W pb C D L w) (hi : i < 3) (hh : C.h i = false) (o : Ox) (hk : o.kd = 5) (hos : o.s.size ≤ 140737488351232) (hL : (L.length + 1) * 16 ≤ 140737488355328) :
    Calls Try.prog 26 #[ptA pb, .int .i64 (i : Int), .agg o.cs] w (OneE W pb L) := by
  obtain ⟨kd, on, at_, n, late, ⟨pn, pg⟩, s⟩ := o
  dsimp only at hk hos
  subst hk
  have pi : (i : Int) < 3 := by omega
  have pi0 : (0 : Int) ≤ (i : Int) := by omega
  rcases P.sd i hi with ⟨-, et, -⟩ | ⟨h1, -⟩
  case inr => rw [hh] at h1; cases h1
  have P0 := Lib.hid P
  have HOS := Lib.hid hos
  obtain ⟨W0, hW0⟩ : ∃ W0, W0 = w.alloc (.cells (Ox.mk 5 on at_ n late ⟨pn, pg⟩ s).cs tyO) := ⟨_, rfl⟩
  obtain ⟨W1, hW1⟩ : ∃ W1, W1 = W0.alloc (.cells (⟨pn, pg⟩ : Pd).cs 38) := ⟨_, rfl⟩
  have O0 := Lib.hid (show Only [] w W0 from by rw [hW0]; exact (Only.refl [] w).alloc _)
  have O01 := Lib.hid (show Only [] W0 W1 from by rw [hW1]; exact (Only.refl [] W0).alloc _)
  have Q1 := Lib.hid (show QR w.heap.size ⟨5, on, at_, n, late, ⟨pn, pg⟩, s⟩ ⟨pn, pg⟩ W1 from by rw [hW1, hW0]; exact ⟨(Bk.made w _ _).alloc _, Bk.newAt (by simp)⟩)
  have t0 := (play_at (P.only O0.out).blk hi).1
  rw [et] at t0
  have P1 := Lib.hid ((P.only O0.out).only O01.out)
  obtain ⟨AL, cL, eL, -, -, rL, -⟩ := P1.out.giv.form
  have RL := Lib.hid rL
  have gL : W1.cell? ⟨pb, 18, none⟩ = some C.g := P1.out.blk.cell0 (i := 18) rfl
  rw [eL] at gL
  have EL := Lib.hid eL
  have s4 := Q1.out.bo.cell0 (i := 4) (v := .int .i64 late) rfl
  have b0 := (show Bk W0 w.heap.size tyO (Ox.mk 5 on at_ n late ⟨pn, pg⟩ s).cs from by rw [hW0]; exact Bk.made w _ _)
  have s5 := b0.cell0 (i := 5) (v := .int .i64 pn) rfl
  have s6 := b0.cell0 (i := 6) (v := .int .i64 pg) rfl
  rw [hW0] at t0 s5 s6
  have HH := Lib.hid hh
  clear P rL b0  et eL hos hh
  go_enter Try.func26, Try.ntmps26
  go_wp2_with fail
  rw [← hW0]
  rw [← hW1]
  have HW1 := Lib.hid hW1
  have HW0 := Lib.hid hW0
  clear t0 s5 s6 hW0 hW1
  go_cut [44] from 24 to 44 (fun v44 wx => v44 = .bool (decide (0 ≤ late) && decide (late < (L.length : Int))) ∧ ∃ n, wx = W1.drewN n)
  case first =>
    by_cases h1 : 0 ≤ late
    · have d1 : decide (0 ≤ late) = true := decide_eq_true h1
      go_quiet (fail)
      go_wp2_with fail
      go_meet
      exact ⟨by rw [d1, Bool.true_and], _, rfl⟩
    · have d1 : decide (0 ≤ late) = false := decide_eq_false h1
      go_quiet (fail)
      go_wp2_with fail
      go_meet
      exact ⟨by rw [d1, Bool.false_and], _, rfl⟩
  case rest =>
    obtain ⟨rfl, q1, rfl⟩ := hcut
    have P2 := Lib.hid (P1.out.only ((Only.refl [] W1).drewN q1))
    have Q2 := Lib.hid (Q1.out.only ((Only.refl [] W1).drewN q1) (by simp) (by simp))
    have O2 := Lib.hid ((O0.out.trans O01.out (by simp)).drewN q1)
    have RL2 := Lib.hid (RL.out.only0 ((Only.refl [] W1).drewN q1))
    clear s4 gL P1 Q1 RL O01 O0
    generalize W1.drewN q1 = W2 at *
    have hLL : (L.length : Int) ≤ 17592186044416 := by omega
    obtain ⟨lt, hlt⟩ : ∃ lt, lt = (decide (0 ≤ late) && decide (late < (L.length : Int))) := ⟨_, rfl⟩
    rw [← hlt]
    have HLT := Lib.hid hlt
    clear hlt
    go_upto_if 44 with fail
    go_cut [44] from 24 to 52 (fun _ wx => ∃ q : Pd, QR w.heap.size ⟨5, on, at_, n, late, ⟨pn, pg⟩, s⟩ q wx ∧ Only [] w wx)
    case first =>
      cases lt with
      | false =>
        go_wp2_with fail
        go_meet
        exact ⟨_, Q2.out, O2.out⟩
      | true =>
        have h2 := HLT.out.symm
        rw [Bool.and_eq_true, decide_eq_true_eq, decide_eq_true_eq] at h2
        obtain ⟨h2, h3⟩ := h2
        obtain ⟨j, rfl⟩ := Int.eq_ofNat_of_zero_le h2
        have hj : j < L.length := by omega
        obtain ⟨q, hq⟩ := some_at hj
        obtain ⟨bl, off, rfl, hb, hc⟩ := RdP.at2 RL2.out (by omega)
        obtain ⟨c0, c1⟩ := hc j q hq
        obtain ⟨qn, qg⟩ := q
        have gL : W2.cell? ⟨pb, 18, none⟩ = some C.g := P2.out.blk.cell0 (i := 18) rfl
        rw [EL.out] at gL
        have s4 := Q2.out.bo.cell0 (i := 4) (v := .int .i64 (j : Int)) rfl
        obtain ⟨p0, p1⟩ := Q2.out.bq.pid
        have pf := Q2.out.bq.free
        dsimp only at c0 c1
        have hs := Q2.out.bq.lt
        have N2 := Lib.hid (fun k : Nat => show QR w.heap.size ⟨5, on, at_, n, (j : Int), ⟨pn, pg⟩, s⟩ ⟨qn, qg⟩ (((W2.drewN k).setCell ⟨w.heap.size + 1, 0, none⟩ (.int .i64 qn)).setCell ⟨w.heap.size + 1, 1, none⟩ (.int .i64 qg)) ∧ Only [] w (((W2.drewN k).setCell ⟨w.heap.size + 1, 0, none⟩ (.int .i64 qn)).setCell ⟨w.heap.size + 1, 1, none⟩ (.int .i64 qg)) from
          ⟨⟨(((Q2.out.bo.drewN k).away (p := ⟨w.heap.size + 1, 0, none⟩) (by show w.heap.size ≠ w.heap.size + 1; omega) _).away (p := ⟨w.heap.size + 1, 1, none⟩) (by show w.heap.size ≠ w.heap.size + 1; omega) _), ((Q2.out.bq.drewN k).set 0 (.int .i64 qn)).set 1 (.int .i64 qg)⟩,
            (((O2.out.drewN k).set (p := ⟨w.heap.size + 1, 0, none⟩) (.inr (by show w.heap.size ≤ w.heap.size + 1; omega)) _).set (p := ⟨w.heap.size + 1, 1, none⟩) (.inr (by show w.heap.size ≤ w.heap.size + 1; omega)) _)⟩)
        clear hc hb hq h2 HLT
        go_wp2_with fail
        refine wp_region_quiet_then 8 (by kernel_rfl) (by kernel_rfl) ?_
        simp only [List.take_succ_cons, List.take_zero, List.drop_succ_cons, List.drop_zero]
        repeat (go_big_quiet_step (fail))
        refine wpQuiet_nil ?_
        intro q9
        go_wp2_with fail
        go_meet
        exact ⟨_, N2.out q9⟩
    case rest =>
      obtain ⟨⟨qn, qg⟩, q3, o3⟩ := hcut
      have Q3 := Lib.hid q3
      have O3 := Lib.hid o3
      have P3 := Lib.hid (P0.out.only o3)
      have x0 := q3.bo.cell0 (i := 0) (v := .int .i64 5) rfl
      clear q3 o3 RL2 P2 Q2 O2 HLT
      have K1 := Lib.hid (where_nil s wc)
      have x2 := Q3.out.bo.cell0 (i := 7) (v := .string s) rfl
      go_wp2_with fail
      (with_reducible refine K1.out.mono ?_)
      rintro e w4 ⟨rfl, o4⟩
      have o5 := o4.alloc (.cells #[.int .i64 0, .int .i64 0] 38)
      have P5 := Lib.hid (P3.out.only o5)
      have Q5 := Lib.hid (Q3.out.only o5 (by simp) (by simp))
      have y1 := (play_at P5.out.blk hi).2.2.2.2.2
      rw [HH.out] at y1
      have b5 := Bk.made w4 38 #[.int .i64 0, .int .i64 0]
      have z0 := b5.cell0 (i := 0) rfl
      have z1 := b5.cell0 (i := 1) rfl
      have hE : eq2 0 0 0 0 = true := rfl
      have x1 := Q5.out.bq.pid
      have K2 := Lib.hid (is_nil ⟨qn, qg⟩ (w4.alloc (.cells #[.int .i64 0, .int .i64 0] 38)))
      clear o4 o5 K1 b5
      go_wp2_with fail
      (with_reducible refine K2.out.mono ?_)
      rintro e w6 ⟨rfl, o6⟩
      have P6 := Lib.hid (P5.out.only o6)
      have Q6 := Lib.hid (Q5.out.only o6 (by simp) (by simp))
      have x1 := Q6.out.bq.pid
      have K3 := Lib.hid (nameOf_nil ⟨qn, qg⟩ w6)
      clear o6 K2
      go_wp2_with fail
      (with_reducible refine K3.out.mono ?_)
      rintro e w7 ⟨rfl, o7⟩
      have P7 := Lib.hid (P6.out.only o7)
      clear o7 K3
      go_wp2_with fail
      go_ret
      exact ⟨rfl, C, D, L, P7.out, Nat.le_succ _⟩
end Go.Proofs.Ytlidnlcmnkagaaa
