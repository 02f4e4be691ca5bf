/- The law's one: Free, Name. -/
import Derived.Test.YtlidnlcmnkagaaaJX
namespace Go.Proofs.Ytlidnlcmnkagaaa
open Go.RowKit
set_option maxRecDepth 20000

set_option maxHeartbeats 16000000 in
theorem one_yes3 {W w : World} {pb i : Nat} {C : Cl} {D : Nat → Gh} {L : List Pd} (P : PR W pb C D L w) (hi : i < 3) (hh : C.h i = true) (o : Ox) (hk : o.kd = 3) (hos : o.s.size ≤ 140737488351232) (hL : (L.length + 1) * 16 ≤ 140737488355328) :
    Calls Try.prog 26 #[ptA pb, .int .i64 (i : Int), .agg o.cs] w (OneE W pb L) := by
  obtain ⟨kd, on, at_, n, late, ⟨pn, pg⟩, s⟩ := o
  dsimp only at hk hos
  subst hk
  have pi : (i : Int) < 3 := by omega
  have pi0 : (0 : Int) ≤ (i : Int) := by omega
  rcases P.sd i hi with ⟨h1, -⟩ | ⟨-, et, en, tr, rt⟩
  case inl => rw [hh] at h1; cases h1
  generalize hD : D i = d at et en tr rt
  obtain ⟨T, b, g, m, k⟩ := d
  dsimp only at et en tr rt
  have EN := Lib.hid en
  have ET := Lib.hid et
  have ED := Lib.hid hD
  have TR := Lib.hid tr
  have RT' := Lib.hid rt
  have P0 := Lib.hid P
  have HOS := Lib.hid hos
  obtain ⟨W0, hW0⟩ : ∃ W0, W0 = w.alloc (.cells (Ox.mk 3 on at_ n late ⟨pn, pg⟩ s).cs tyO) := ⟨_, rfl⟩
  obtain ⟨W1, hW1⟩ : ∃ W1, W1 = W0.alloc (.cells (⟨pn, pg⟩ : Pd).cs 38) := ⟨_, rfl⟩
  have O0 := Lib.hid (show Only [] w W0 from by rw [hW0]; exact (Only.refl [] w).alloc _)
  have O01 := Lib.hid (show Only [] W0 W1 from by rw [hW1]; exact (Only.refl [] W0).alloc _)
  have Q1 := Lib.hid (show QR w.heap.size ⟨3, on, at_, n, late, ⟨pn, pg⟩, s⟩ ⟨pn, pg⟩ W1 from by rw [hW1, hW0]; exact ⟨(Bk.made w _ _).alloc _, Bk.newAt (by simp)⟩)
  have t0 := (play_at (P.only O0.out).blk hi).1
  rw [et] at t0
  have P1 := Lib.hid ((P.only O0.out).only O01.out)
  obtain ⟨AL, cL, eL, -, -, rL, -⟩ := P1.out.giv.form
  have RL := Lib.hid rL
  have gL : W1.cell? ⟨pb, 18, none⟩ = some C.g := P1.out.blk.cell0 (i := 18) rfl
  rw [eL] at gL
  have EL := Lib.hid eL
  have s4 := Q1.out.bo.cell0 (i := 4) (v := .int .i64 late) rfl
  have b0 := (show Bk W0 w.heap.size tyO (Ox.mk 3 on at_ n late ⟨pn, pg⟩ s).cs from by rw [hW0]; exact Bk.made w _ _)
  have s5 := b0.cell0 (i := 5) (v := .int .i64 pn) rfl
  have s6 := b0.cell0 (i := 6) (v := .int .i64 pg) rfl
  rw [hW0] at t0 s5 s6
  have HH := Lib.hid hh
  clear P rL b0 en hD tr rt et eL hos hh
  go_enter Try.func26, Try.ntmps26
  go_wp2_with fail
  rw [← hW0]
  rw [← hW1]
  have HW1 := Lib.hid hW1
  have HW0 := Lib.hid hW0
  clear t0 s5 s6 hW0 hW1
  go_cut [44] from 24 to 44 (fun v44 wx => v44 = .bool (decide (0 ≤ late) && decide (late < (L.length : Int))) ∧ ∃ n, wx = W1.drewN n)
  case first =>
    by_cases h1 : 0 ≤ late
    · have d1 : decide (0 ≤ late) = true := decide_eq_true h1
      go_quiet (fail)
      go_wp2_with fail
      go_meet
      exact ⟨by rw [d1, Bool.true_and], _, rfl⟩
    · have d1 : decide (0 ≤ late) = false := decide_eq_false h1
      go_quiet (fail)
      go_wp2_with fail
      go_meet
      exact ⟨by rw [d1, Bool.false_and], _, rfl⟩
  case rest =>
    obtain ⟨rfl, q1, rfl⟩ := hcut
    have P2 := Lib.hid (P1.out.only ((Only.refl [] W1).drewN q1))
    have Q2 := Lib.hid (Q1.out.only ((Only.refl [] W1).drewN q1) (by simp) (by simp))
    have O2 := Lib.hid ((O0.out.trans O01.out (by simp)).drewN q1)
    have RL2 := Lib.hid (RL.out.only0 ((Only.refl [] W1).drewN q1))
    clear s4 gL P1 Q1 RL O01 O0
    generalize W1.drewN q1 = W2 at *
    have hLL : (L.length : Int) ≤ 17592186044416 := by omega
    obtain ⟨lt, hlt⟩ : ∃ lt, lt = (decide (0 ≤ late) && decide (late < (L.length : Int))) := ⟨_, rfl⟩
    rw [← hlt]
    have HLT := Lib.hid hlt
    clear hlt
    go_upto_if 44 with fail
    go_cut [44] from 24 to 52 (fun _ wx => ∃ q : Pd, QR w.heap.size ⟨3, on, at_, n, late, ⟨pn, pg⟩, s⟩ q wx ∧ Only [] w wx)
    case first =>
      cases lt with
      | false =>
        go_wp2_with fail
        go_meet
        exact ⟨_, Q2.out, O2.out⟩
      | true =>
        have h2 := HLT.out.symm
        rw [Bool.and_eq_true, decide_eq_true_eq, decide_eq_true_eq] at h2
        obtain ⟨h2, h3⟩ := h2
        obtain ⟨j, rfl⟩ := Int.eq_ofNat_of_zero_le h2
        have hj : j < L.length := by omega
        obtain ⟨q, hq⟩ := some_at hj
        obtain ⟨bl, off, rfl, hb, hc⟩ := RdP.at2 RL2.out (by omega)
        obtain ⟨c0, c1⟩ := hc j q hq
        obtain ⟨qn, qg⟩ := q
        have gL : W2.cell? ⟨pb, 18, none⟩ = some C.g := P2.out.blk.cell0 (i := 18) rfl
        rw [EL.out] at gL
        have s4 := Q2.out.bo.cell0 (i := 4) (v := .int .i64 (j : Int)) rfl
        obtain ⟨p0, p1⟩ := Q2.out.bq.pid
        have pf := Q2.out.bq.free
        dsimp only at c0 c1
        have hs := Q2.out.bq.lt
        have N2 := Lib.hid (fun k : Nat => show QR w.heap.size ⟨3, on, at_, n, (j : Int), ⟨pn, pg⟩, s⟩ ⟨qn, qg⟩ (((W2.drewN k).setCell ⟨w.heap.size + 1, 0, none⟩ (.int .i64 qn)).setCell ⟨w.heap.size + 1, 1, none⟩ (.int .i64 qg)) ∧ Only [] w (((W2.drewN k).setCell ⟨w.heap.size + 1, 0, none⟩ (.int .i64 qn)).setCell ⟨w.heap.size + 1, 1, none⟩ (.int .i64 qg)) from
          ⟨⟨(((Q2.out.bo.drewN k).away (p := ⟨w.heap.size + 1, 0, none⟩) (by show w.heap.size ≠ w.heap.size + 1; omega) _).away (p := ⟨w.heap.size + 1, 1, none⟩) (by show w.heap.size ≠ w.heap.size + 1; omega) _), ((Q2.out.bq.drewN k).set 0 (.int .i64 qn)).set 1 (.int .i64 qg)⟩,
            (((O2.out.drewN k).set (p := ⟨w.heap.size + 1, 0, none⟩) (.inr (by show w.heap.size ≤ w.heap.size + 1; omega)) _).set (p := ⟨w.heap.size + 1, 1, none⟩) (.inr (by show w.heap.size ≤ w.heap.size + 1; omega)) _)⟩)
        clear hc hb hq h2 HLT
        go_wp2_with fail
        refine wp_region_quiet_then 8 (by kernel_rfl) (by kernel_rfl) ?_
        simp only [List.take_succ_cons, List.take_zero, List.drop_succ_cons, List.drop_zero]
        repeat (go_big_quiet_step (fail))
        refine wpQuiet_nil ?_
        intro q9
        go_wp2_with fail
        go_meet
        exact ⟨_, N2.out q9⟩
    case rest =>
      obtain ⟨⟨qn, qg⟩, q3, o3⟩ := hcut
      have Q3 := Lib.hid q3
      have O3 := Lib.hid o3
      have P3 := Lib.hid (P0.out.only o3)
      have x0 := q3.bo.cell0 (i := 0) (v := .int .i64 3) rfl
      clear q3 o3 RL2 P2 Q2 O2 HLT
      obtain ⟨A1, c1, A2, c2, A3, c3, e1, e2, e3⟩ := RT'.out.forms0
      have t3 := TR.out.only O3.out (by simp) (by simp) (by simp)
      have r3 := RT'.out.only O3.out rfl
      rw [e1, e2, e3] at r3
      have E1 := Lib.hid e1
      have E2 := Lib.hid e2
      have E3 := Lib.hid e3
      have T3 := Lib.hid t3
      have R3 := Lib.hid r3
      have hlen := t3.ok.len
      have HBD := Lib.hid (fun (n : Nat) (x : Pl) (h : T[n]? = some x) => (t3.ok.bd n x h).1.1)
      obtain ⟨T', er, hF⟩ : ∃ T' er, freeF T ⟨qn, qg⟩ = (T', er) := ⟨_, _, rfl⟩
      have hTl : T'.length = T.length := by have := free_len T ⟨qn, qg⟩; rw [hF] at this; exact this
      have x1 := Q3.out.bq.pid
      have K1 := free_any t3 ⟨qn, qg⟩
      rw [hF] at K1
      have K1 := Lib.hid K1
      have HTL := Lib.hid hTl
      have KW : Hid (∀ W', RT W' (.slice A1 T.length c1) (.slice A2 T.length c2) (.slice A3 T.length c3) T → Calls Try.prog 44 #[.agg (rtC T.length (.slice A1 T.length c1) (.slice A2 T.length c2) (.slice A3 T.length c3)), .agg (⟨qn, qg⟩ : Pd).cs] W' (RFreeE W' T.length (T', er))) := Lib.hid (fun W' r => by rw [← hF]; exact (rfree_any r hlen.2 ⟨qn, qg⟩))
      clear e1 e2 e3 t3 r3 hF hTl
      go_wp2_with fail
      (with_reducible refine K1.out.mono ?_)
      rintro e w4 ⟨rfl, t4, o4⟩
      have M4 := Lib.hid (P3.out.turn hi HH.out (by rw [ED.out]; exact T3.out) (by rw [ED.out]; exact o4))
      have R4 := Lib.hid (R3.out.byTable T3.out o4)
      have T4 := Lib.hid t4
      have Q4 := Lib.hid (show QR w.heap.size ⟨3, on, at_, n, late, ⟨pn, pg⟩, s⟩ ⟨qn, qg⟩ w4 from by
        obtain ⟨cur, hc⟩ := T3.out.row.obj
        have h1 := hc.apart Q3.out.bo (by decide +kernel)
        have h2 := hc.apart Q3.out.bq (by decide +kernel)
        have h3 := T3.out.map.apart Q3.out.bo
        have h4 := T3.out.map.apart Q3.out.bq
        exact Q3.out.only o4 (by simp [Ne.symm h1, Ne.symm h3]) (by simp [Ne.symm h2, Ne.symm h4]))
      obtain ⟨y0, y1, y2, y3, y4, y5⟩ := play_cells M4.out.blk hi ET.out EN.out E1.out E2.out E3.out HH.out
      have x1 := Q4.out.bq.pid
      clear K1 t4 o4
      go_upto_region 18 with fail
      go_cut [15, 16] from 125 to 135 (fun v15 v16 wx => ∃ (b15 : Nat) (u1 u2 u3 : Value), v15 = .pointer (some ⟨b15, 0, none⟩) ∧ v16 = .int .i64 er ∧ Bk wx b15 30 (rtC T.length u1 u2 u3) ∧ RT wx u1 u2 u3 T' ∧ Only [] w4 wx)
      case first =>
        have HCS := Lib.hid (show ∀ W' : World, Only [] w4 W' → W'.cell? ⟨pb, 3 + i * 4, none⟩ = some (.int .i64 (T.length : Int)) ∧ W'.cell? ⟨pb, 3 + i * 4 + 1, none⟩ = some (.slice A1 T.length c1) ∧ W'.cell? ⟨pb, 3 + i * 4 + 2, none⟩ = some (.slice A2 T.length c2) ∧ W'.cell? ⟨pb, 3 + i * 4 + 3, none⟩ = some (.slice A3 T.length c3) ∧ W'.cell? ⟨w.heap.size + 1, 0, none⟩ = some (.int .i64 qn) ∧ W'.cell? ⟨w.heap.size + 1, 1, none⟩ = some (.int .i64 qg) from fun W' oz => by
          obtain ⟨-, y1', y2', y3', y4', -⟩ := play_cells (M4.out.only oz).blk hi ET.out EN.out E1.out E2.out E3.out HH.out
          have x1' := (Q4.out.only oz (by simp) (by simp)).bq.pid
          exact ⟨y1', y2', y3', y4', x1'.1, x1'.2⟩)
        have b4 := HCS.out w4 (Only.refl _ _)
        have b4' := HCS.out (w4.alloc (.cells rt0 30)) ((Only.refl [] w4).alloc _)
        have b4d := HCS.out w4.drew ((Only.refl [] w4).drew)
        have b4e := HCS.out (w4.alloc (.cells rt0 30)).drew (((Only.refl [] w4).alloc _).drew)
        clear y0 y1 y2 y3 y4 y5 x1
        go_region_held3 (fun W' => W'.cell? ⟨pb, 3 + i * 4, none⟩ = some (.int .i64 (T.length : Int)) ∧ W'.cell? ⟨pb, 3 + i * 4 + 1, none⟩ = some (.slice A1 T.length c1) ∧ W'.cell? ⟨pb, 3 + i * 4 + 2, none⟩ = some (.slice A2 T.length c2) ∧ W'.cell? ⟨pb, 3 + i * 4 + 3, none⟩ = some (.slice A3 T.length c3) ∧ W'.cell? ⟨w.heap.size + 1, 0, none⟩ = some (.int .i64 qn) ∧ W'.cell? ⟨w.heap.size + 1, 1, none⟩ = some (.int .i64 qg)) (with_reducible (first | exact b4 | exact b4d | exact b4' | exact b4e | exact b5 | exact b5' | exact b6 | exact b7))
          (first
            | (go_at_call 44; (with_reducible refine (KW.out _ ?_).mono ?_); (focus (exact R4.out.only (by repeat (with_reducible (first | exact Only.refl _ _ | refine Only.drew ?_ | refine Only.drewN ?_ _ | refine Only.alloc ?_ _))) rfl)); rintro e w5 ⟨u1, u2, u3, rfl, r5, o5⟩; (dsimp only at r5); obtain ⟨A7, c7, A8, c8, A9, c9, f7, f8, f9⟩ := r5.forms0; rw [HTL.out] at f7 f8 f9; subst f7 f8 f9; have R5 := Lib.hid r5; have o45 : Only [] w4 w5 := Only.trans (by repeat (with_reducible (first | exact Only.refl _ _ | refine Only.drew ?_ | refine Only.drewN ?_ _ | refine Only.alloc ?_ _))) o5 (by simp); have O5 := Lib.hid o45; have b5 := HCS.out w5 o45; have b5' := HCS.out (w5.alloc (.cells rt0 30)) (o45.alloc _); have b6 := HCS.out (w5.alloc (.cells (rtC T.length (.slice A7 T.length c7) (.slice A8 T.length c8) (.slice A9 T.length c9)) 30)) (o45.alloc _);  have b7 := HCS.out _ (o45.trans (only4 w5 w4.heap.size (.int .i64 (T.length : Int)) (.slice A7 T.length c7) (.slice A8 T.length c8) (.slice A9 T.length c9)) (by simp)); try (have zb : Bk w5 w4.heap.size 30 rt0 := Bk.only (by with_reducible (first | exact Bk.made _ _ _ | exact (Bk.made _ _ _).drew | exact (Bk.made _ _ _).drewN _)) o5 (by simp); have zc0 := zb.cell0 (i := 0) rfl; have zc1 := zb.cell0 (i := 1) rfl; have zc2 := zb.cell0 (i := 2) rfl; have zc3 := zb.cell0 (i := 3) rfl; have zcf := zb.free; have ZB := Lib.hid zb; clear zb); clear r5 o5 o45)
            | fail)
        all_goals
          go_wp2_with fail
          go_meet
          first
            | (refine ⟨w4.heap.size, .slice A7 T.length c7, .slice A8 T.length c8, .slice A9 T.length c9, (by with_reducible rfl), rfl, ?_, ?_, ?_⟩
               rotate_left
               · exact R5.out.onlyT ZB.out (only4 w5 w4.heap.size (.int .i64 (T.length : Int)) (.slice A7 T.length c7) (.slice A8 T.length c8) (.slice A9 T.length c9))
               · exact O5.out.trans (only4 w5 w4.heap.size (.int .i64 (T.length : Int)) (.slice A7 T.length c7) (.slice A8 T.length c8) (.slice A9 T.length c9)) (by simp)
               · exact ((((ZB.out.set 0 (.int .i64 (T.length : Int))).set 1 (.slice A7 T.length c7)).set 2 (.slice A8 T.length c8)).set 3 (.slice A9 T.length c9)))
            | (refine ⟨w5.heap.size, .slice A7 T.length c7, .slice A8 T.length c8, .slice A9 T.length c9, (by with_reducible rfl), rfl, ?_, ?_, ?_⟩
               · (with_reducible exact Bk.made w5 _ _)
               · (with_reducible exact R5.out.alloc _)
               · (with_reducible exact O5.out.alloc _))
      case rest =>
        obtain ⟨b15, u1, u2, u3, rfl, rfl, B5, r5, o5⟩ := hcut
        obtain ⟨A7, c7, A8, c8, A9, c9, f7, f8, f9⟩ := r5.forms0
        rw [HTL.out] at f7 f8 f9
        subst f7 f8 f9
        have M7 := Lib.hid (M4.out.only o5)
        have R7 := Lib.hid r5
        have T7 := Lib.hid (T4.out.only o5 (by simp) (by simp) (by simp))
        have x0 := B5.cell0 (i := 0) (v := .int .i64 (T.length : Int)) rfl
        have x1 := B5.cell0 (i := 1) (v := .slice A7 T.length c7) rfl
        have x2 := B5.cell0 (i := 2) (v := .slice A8 T.length c8) rfl
        have x3 := B5.cell0 (i := 3) (v := .slice A9 T.length c9) rfl
        obtain ⟨y0, y1, y2, y3, y4, y5⟩ := play_cells M7.out.blk hi ET.out EN.out E1.out E2.out E3.out HH.out
        have yf := M7.out.blk.free
        have hE : (er == er) = true := beq_self_eq_true er
        clear r5 o5 B5 y0
        go_wp2_with fail
        refine wp_region_quiet_then 6 (by kernel_rfl) (by kernel_rfl) ?_
        simp only [List.take_succ_cons, List.take_zero, List.drop_succ_cons, List.drop_zero]
        repeat (go_big_quiet_step (fail))
        refine wpQuiet_nil ?_
        intro q9
        go_wp2_with fail
        have P8 := Lib.hid (PM.finish (M7.out.only ((Only.refl [] wc).drewN q9)) P0.out hi HH.out ED.out ET.out (T7.out.drewN q9) (R7.out.only ((Only.refl [] wc).drewN q9) rfl) (n := (T.length : Int)) (by rw [HTL.out]))
        clear x0 x1 x2 x3 y1 y2 y3 y4 y5 yf
        go_ret
        exact ⟨rfl, _, _, _, P8.out, Nat.le_succ _⟩
set_option maxHeartbeats 16000000 in
theorem one_yes4 {W w : World} {pb i : Nat} {C : Cl} {D : Nat → Gh} {L : List Pd} (P : PR W pb C D L w) (hi : i < 3) (hh : C.h i = true) (o : Ox) (hk : o.kd = 4) (hos : o.s.size ≤ 140737488351232) (hL : (L.length + 1) * 16 ≤ 140737488355328) :
    Calls Try.prog 26 #[ptA pb, .int .i64 (i : Int), .agg o.cs] w (OneE W pb L) := by
  obtain ⟨kd, on, at_, n, late, ⟨pn, pg⟩, s⟩ := o
  dsimp only at hk hos
  subst hk
  have pi : (i : Int) < 3 := by omega
  have pi0 : (0 : Int) ≤ (i : Int) := by omega
  rcases P.sd i hi with ⟨h1, -⟩ | ⟨-, et, en, tr, rt⟩
  case inl => rw [hh] at h1; cases h1
  generalize hD : D i = d at et en tr rt
  obtain ⟨T, b, g, m, k⟩ := d
  dsimp only at et en tr rt
  have EN := Lib.hid en
  have ET := Lib.hid et
  have ED := Lib.hid hD
  have TR := Lib.hid tr
  have RT' := Lib.hid rt
  have P0 := Lib.hid P
  have HOS := Lib.hid hos
  obtain ⟨W0, hW0⟩ : ∃ W0, W0 = w.alloc (.cells (Ox.mk 4 on at_ n late ⟨pn, pg⟩ s).cs tyO) := ⟨_, rfl⟩
  obtain ⟨W1, hW1⟩ : ∃ W1, W1 = W0.alloc (.cells (⟨pn, pg⟩ : Pd).cs 38) := ⟨_, rfl⟩
  have O0 := Lib.hid (show Only [] w W0 from by rw [hW0]; exact (Only.refl [] w).alloc _)
  have O01 := Lib.hid (show Only [] W0 W1 from by rw [hW1]; exact (Only.refl [] W0).alloc _)
  have Q1 := Lib.hid (show QR w.heap.size ⟨4, on, at_, n, late, ⟨pn, pg⟩, s⟩ ⟨pn, pg⟩ W1 from by rw [hW1, hW0]; exact ⟨(Bk.made w _ _).alloc _, Bk.newAt (by simp)⟩)
  have t0 := (play_at (P.only O0.out).blk hi).1
  rw [et] at t0
  have P1 := Lib.hid ((P.only O0.out).only O01.out)
  obtain ⟨AL, cL, eL, -, -, rL, -⟩ := P1.out.giv.form
  have RL := Lib.hid rL
  have gL : W1.cell? ⟨pb, 18, none⟩ = some C.g := P1.out.blk.cell0 (i := 18) rfl
  rw [eL] at gL
  have EL := Lib.hid eL
  have s4 := Q1.out.bo.cell0 (i := 4) (v := .int .i64 late) rfl
  have b0 := (show Bk W0 w.heap.size tyO (Ox.mk 4 on at_ n late ⟨pn, pg⟩ s).cs from by rw [hW0]; exact Bk.made w _ _)
  have s5 := b0.cell0 (i := 5) (v := .int .i64 pn) rfl
  have s6 := b0.cell0 (i := 6) (v := .int .i64 pg) rfl
  rw [hW0] at t0 s5 s6
  have HH := Lib.hid hh
  clear P rL b0 en hD tr rt et eL hos hh
  go_enter Try.func26, Try.ntmps26
  go_wp2_with fail
  rw [← hW0]
  rw [← hW1]
  have HW1 := Lib.hid hW1
  have HW0 := Lib.hid hW0
  clear t0 s5 s6 hW0 hW1
  go_cut [44] from 24 to 44 (fun v44 wx => v44 = .bool (decide (0 ≤ late) && decide (late < (L.length : Int))) ∧ ∃ n, wx = W1.drewN n)
  case first =>
    by_cases h1 : 0 ≤ late
    · have d1 : decide (0 ≤ late) = true := decide_eq_true h1
      go_quiet (fail)
      go_wp2_with fail
      go_meet
      exact ⟨by rw [d1, Bool.true_and], _, rfl⟩
    · have d1 : decide (0 ≤ late) = false := decide_eq_false h1
      go_quiet (fail)
      go_wp2_with fail
      go_meet
      exact ⟨by rw [d1, Bool.false_and], _, rfl⟩
  case rest =>
    obtain ⟨rfl, q1, rfl⟩ := hcut
    have P2 := Lib.hid (P1.out.only ((Only.refl [] W1).drewN q1))
    have Q2 := Lib.hid (Q1.out.only ((Only.refl [] W1).drewN q1) (by simp) (by simp))
    have O2 := Lib.hid ((O0.out.trans O01.out (by simp)).drewN q1)
    have RL2 := Lib.hid (RL.out.only0 ((Only.refl [] W1).drewN q1))
    clear s4 gL P1 Q1 RL O01 O0
    generalize W1.drewN q1 = W2 at *
    have hLL : (L.length : Int) ≤ 17592186044416 := by omega
    obtain ⟨lt, hlt⟩ : ∃ lt, lt = (decide (0 ≤ late) && decide (late < (L.length : Int))) := ⟨_, rfl⟩
    rw [← hlt]
    have HLT := Lib.hid hlt
    clear hlt
    go_upto_if 44 with fail
    go_cut [44] from 24 to 52 (fun _ wx => ∃ q : Pd, QR w.heap.size ⟨4, on, at_, n, late, ⟨pn, pg⟩, s⟩ q wx ∧ Only [] w wx)
    case first =>
      cases lt with
      | false =>
        go_wp2_with fail
        go_meet
        exact ⟨_, Q2.out, O2.out⟩
      | true =>
        have h2 := HLT.out.symm
        rw [Bool.and_eq_true, decide_eq_true_eq, decide_eq_true_eq] at h2
        obtain ⟨h2, h3⟩ := h2
        obtain ⟨j, rfl⟩ := Int.eq_ofNat_of_zero_le h2
        have hj : j < L.length := by omega
        obtain ⟨q, hq⟩ := some_at hj
        obtain ⟨bl, off, rfl, hb, hc⟩ := RdP.at2 RL2.out (by omega)
        obtain ⟨c0, c1⟩ := hc j q hq
        obtain ⟨qn, qg⟩ := q
        have gL : W2.cell? ⟨pb, 18, none⟩ = some C.g := P2.out.blk.cell0 (i := 18) rfl
        rw [EL.out] at gL
        have s4 := Q2.out.bo.cell0 (i := 4) (v := .int .i64 (j : Int)) rfl
        obtain ⟨p0, p1⟩ := Q2.out.bq.pid
        have pf := Q2.out.bq.free
        dsimp only at c0 c1
        have hs := Q2.out.bq.lt
        have N2 := Lib.hid (fun k : Nat => show QR w.heap.size ⟨4, on, at_, n, (j : Int), ⟨pn, pg⟩, s⟩ ⟨qn, qg⟩ (((W2.drewN k).setCell ⟨w.heap.size + 1, 0, none⟩ (.int .i64 qn)).setCell ⟨w.heap.size + 1, 1, none⟩ (.int .i64 qg)) ∧ Only [] w (((W2.drewN k).setCell ⟨w.heap.size + 1, 0, none⟩ (.int .i64 qn)).setCell ⟨w.heap.size + 1, 1, none⟩ (.int .i64 qg)) from
          ⟨⟨(((Q2.out.bo.drewN k).away (p := ⟨w.heap.size + 1, 0, none⟩) (by show w.heap.size ≠ w.heap.size + 1; omega) _).away (p := ⟨w.heap.size + 1, 1, none⟩) (by show w.heap.size ≠ w.heap.size + 1; omega) _), ((Q2.out.bq.drewN k).set 0 (.int .i64 qn)).set 1 (.int .i64 qg)⟩,
            (((O2.out.drewN k).set (p := ⟨w.heap.size + 1, 0, none⟩) (.inr (by show w.heap.size ≤ w.heap.size + 1; omega)) _).set (p := ⟨w.heap.size + 1, 1, none⟩) (.inr (by show w.heap.size ≤ w.heap.size + 1; omega)) _)⟩)
        clear hc hb hq h2 HLT
        go_wp2_with fail
        refine wp_region_quiet_then 8 (by kernel_rfl) (by kernel_rfl) ?_
        simp only [List.take_succ_cons, List.take_zero, List.drop_succ_cons, List.drop_zero]
        repeat (go_big_quiet_step (fail))
        refine wpQuiet_nil ?_
        intro q9
        go_wp2_with fail
        go_meet
        exact ⟨_, N2.out q9⟩
    case rest =>
      obtain ⟨⟨qn, qg⟩, q3, o3⟩ := hcut
      have Q3 := Lib.hid q3
      have O3 := Lib.hid o3
      have P3 := Lib.hid (P0.out.only o3)
      have x0 := q3.bo.cell0 (i := 0) (v := .int .i64 4) rfl
      clear q3 o3 RL2 P2 Q2 O2 HLT
      obtain ⟨A1, c1, A2, c2, A3, c3, e1, e2, e3⟩ := RT'.out.forms0
      have t3 := TR.out.only O3.out (by simp) (by simp) (by simp)
      have r3 := RT'.out.only O3.out rfl
      rw [e1, e2, e3] at r3
      have E1 := Lib.hid e1
      have E2 := Lib.hid e2
      have E3 := Lib.hid e3
      have T3 := Lib.hid t3
      have R3 := Lib.hid r3
      have hlen := t3.ok.len
      have HBD := Lib.hid (fun (n : Nat) (x : Pl) (h : T[n]? = some x) => (t3.ok.bd n x h).1.1)
      obtain ⟨T', er, hF⟩ : ∃ T' er, nameF T ⟨qn, qg⟩ s = (T', er) := ⟨_, _, rfl⟩
      have hTl : T'.length = T.length := by have := name_len T ⟨qn, qg⟩ s; rw [hF] at this; exact this
      have x1 := Q3.out.bq.pid
      have x2 := Q3.out.bo.cell0 (i := 7) (v := .string s) rfl
      have K1 := name_any t3 ⟨qn, qg⟩ s HOS.out
      rw [hF] at K1
      have K1 := Lib.hid K1
      have HTL := Lib.hid hTl
      have KW : Hid (∀ W', RT W' (.slice A1 T.length c1) (.slice A2 T.length c2) (.slice A3 T.length c3) T → Calls Try.prog 45 #[.agg (rtC T.length (.slice A1 T.length c1) (.slice A2 T.length c2) (.slice A3 T.length c3)), .agg (⟨qn, qg⟩ : Pd).cs, .string s] W' (RFreeE W' T.length (T', er))) := Lib.hid (fun W' r => by rw [← hF]; exact (rname_any r hlen.2 ⟨qn, qg⟩ s HOS.out))
      clear e1 e2 e3 t3 r3 hF hTl
      go_wp2_with fail
      (with_reducible refine K1.out.mono ?_)
      rintro e w4 ⟨rfl, t4, o4⟩
      have M4 := Lib.hid (P3.out.turn hi HH.out (by rw [ED.out]; exact T3.out) (by rw [ED.out]; exact o4))
      have R4 := Lib.hid (R3.out.byTable T3.out o4)
      have T4 := Lib.hid t4
      have Q4 := Lib.hid (show QR w.heap.size ⟨4, on, at_, n, late, ⟨pn, pg⟩, s⟩ ⟨qn, qg⟩ w4 from by
        obtain ⟨cur, hc⟩ := T3.out.row.obj
        have h1 := hc.apart Q3.out.bo (by decide +kernel)
        have h2 := hc.apart Q3.out.bq (by decide +kernel)
        have h3 := T3.out.map.apart Q3.out.bo
        have h4 := T3.out.map.apart Q3.out.bq
        exact Q3.out.only o4 (by simp [Ne.symm h1, Ne.symm h3]) (by simp [Ne.symm h2, Ne.symm h4]))
      obtain ⟨y0, y1, y2, y3, y4, y5⟩ := play_cells M4.out.blk hi ET.out EN.out E1.out E2.out E3.out HH.out
      have x1 := Q4.out.bq.pid
      have x2 := Q4.out.bo.cell0 (i := 7) (v := .string s) rfl
      clear K1 t4 o4
      go_upto_region 25 with fail
      go_cut [18, 19] from 161 to 173 (fun v15 v16 wx => ∃ (b15 : Nat) (u1 u2 u3 : Value), v15 = .pointer (some ⟨b15, 0, none⟩) ∧ v16 = .int .i64 er ∧ Bk wx b15 30 (rtC T.length u1 u2 u3) ∧ RT wx u1 u2 u3 T' ∧ Only [] w4 wx)
      case first =>
        have HCS := Lib.hid (show ∀ W' : World, Only [] w4 W' → W'.cell? ⟨pb, 3 + i * 4, none⟩ = some (.int .i64 (T.length : Int)) ∧ W'.cell? ⟨pb, 3 + i * 4 + 1, none⟩ = some (.slice A1 T.length c1) ∧ W'.cell? ⟨pb, 3 + i * 4 + 2, none⟩ = some (.slice A2 T.length c2) ∧ W'.cell? ⟨pb, 3 + i * 4 + 3, none⟩ = some (.slice A3 T.length c3) ∧ W'.cell? ⟨w.heap.size + 1, 0, none⟩ = some (.int .i64 qn) ∧ W'.cell? ⟨w.heap.size + 1, 1, none⟩ = some (.int .i64 qg) ∧ W'.cell? ⟨w.heap.size, 7, none⟩ = some (.string s) from fun W' oz => by
          obtain ⟨-, y1', y2', y3', y4', -⟩ := play_cells (M4.out.only oz).blk hi ET.out EN.out E1.out E2.out E3.out HH.out
          have x1' := (Q4.out.only oz (by simp) (by simp)).bq.pid
          have x2' := (Q4.out.only oz (by simp) (by simp)).bo.cell0 (i := 7) (v := .string s) rfl
          exact ⟨y1', y2', y3', y4', x1'.1, x1'.2, x2'⟩)
        have b4 := HCS.out w4 (Only.refl _ _)
        have b4' := HCS.out (w4.alloc (.cells rt0 30)) ((Only.refl [] w4).alloc _)
        have b4d := HCS.out w4.drew ((Only.refl [] w4).drew)
        have b4e := HCS.out (w4.alloc (.cells rt0 30)).drew (((Only.refl [] w4).alloc _).drew)
        clear y0 y1 y2 y3 y4 y5 x1
        go_region_held3 (fun W' => W'.cell? ⟨pb, 3 + i * 4, none⟩ = some (.int .i64 (T.length : Int)) ∧ W'.cell? ⟨pb, 3 + i * 4 + 1, none⟩ = some (.slice A1 T.length c1) ∧ W'.cell? ⟨pb, 3 + i * 4 + 2, none⟩ = some (.slice A2 T.length c2) ∧ W'.cell? ⟨pb, 3 + i * 4 + 3, none⟩ = some (.slice A3 T.length c3) ∧ W'.cell? ⟨w.heap.size + 1, 0, none⟩ = some (.int .i64 qn) ∧ W'.cell? ⟨w.heap.size + 1, 1, none⟩ = some (.int .i64 qg) ∧ W'.cell? ⟨w.heap.size, 7, none⟩ = some (.string s)) (with_reducible (first | exact b4 | exact b4d | exact b4' | exact b4e | exact b5 | exact b5' | exact b6 | exact b7))
          (first
            | (go_at_call 45; (with_reducible refine (KW.out _ ?_).mono ?_); (focus (exact R4.out.only (by repeat (with_reducible (first | exact Only.refl _ _ | refine Only.drew ?_ | refine Only.drewN ?_ _ | refine Only.alloc ?_ _))) rfl)); rintro e w5 ⟨u1, u2, u3, rfl, r5, o5⟩; (dsimp only at r5); obtain ⟨A7, c7, A8, c8, A9, c9, f7, f8, f9⟩ := r5.forms0; rw [HTL.out] at f7 f8 f9; subst f7 f8 f9; have R5 := Lib.hid r5; have o45 : Only [] w4 w5 := Only.trans (by repeat (with_reducible (first | exact Only.refl _ _ | refine Only.drew ?_ | refine Only.drewN ?_ _ | refine Only.alloc ?_ _))) o5 (by simp); have O5 := Lib.hid o45; have b5 := HCS.out w5 o45; have b5' := HCS.out (w5.alloc (.cells rt0 30)) (o45.alloc _); have b6 := HCS.out (w5.alloc (.cells (rtC T.length (.slice A7 T.length c7) (.slice A8 T.length c8) (.slice A9 T.length c9)) 30)) (o45.alloc _);  have b7 := HCS.out _ (o45.trans (only4 w5 w4.heap.size (.int .i64 (T.length : Int)) (.slice A7 T.length c7) (.slice A8 T.length c8) (.slice A9 T.length c9)) (by simp)); try (have zb : Bk w5 w4.heap.size 30 rt0 := Bk.only (by with_reducible (first | exact Bk.made _ _ _ | exact (Bk.made _ _ _).drew | exact (Bk.made _ _ _).drewN _)) o5 (by simp); have zc0 := zb.cell0 (i := 0) rfl; have zc1 := zb.cell0 (i := 1) rfl; have zc2 := zb.cell0 (i := 2) rfl; have zc3 := zb.cell0 (i := 3) rfl; have zcf := zb.free; have ZB := Lib.hid zb; clear zb); clear r5 o5 o45)
            | fail)
        all_goals
          go_wp2_with fail
          go_meet
          first
            | (refine ⟨w4.heap.size, .slice A7 T.length c7, .slice A8 T.length c8, .slice A9 T.length c9, (by with_reducible rfl), rfl, ?_, ?_, ?_⟩
               rotate_left
               · exact R5.out.onlyT ZB.out (only4 w5 w4.heap.size (.int .i64 (T.length : Int)) (.slice A7 T.length c7) (.slice A8 T.length c8) (.slice A9 T.length c9))
               · exact O5.out.trans (only4 w5 w4.heap.size (.int .i64 (T.length : Int)) (.slice A7 T.length c7) (.slice A8 T.length c8) (.slice A9 T.length c9)) (by simp)
               · exact ((((ZB.out.set 0 (.int .i64 (T.length : Int))).set 1 (.slice A7 T.length c7)).set 2 (.slice A8 T.length c8)).set 3 (.slice A9 T.length c9)))
            | (refine ⟨w5.heap.size, .slice A7 T.length c7, .slice A8 T.length c8, .slice A9 T.length c9, (by with_reducible rfl), rfl, ?_, ?_, ?_⟩
               · (with_reducible exact Bk.made w5 _ _)
               · (with_reducible exact R5.out.alloc _)
               · (with_reducible exact O5.out.alloc _))
      case rest =>
        obtain ⟨b15, u1, u2, u3, rfl, rfl, B5, r5, o5⟩ := hcut
        obtain ⟨A7, c7, A8, c8, A9, c9, f7, f8, f9⟩ := r5.forms0
        rw [HTL.out] at f7 f8 f9
        subst f7 f8 f9
        have M7 := Lib.hid (M4.out.only o5)
        have R7 := Lib.hid r5
        have T7 := Lib.hid (T4.out.only o5 (by simp) (by simp) (by simp))
        have x0 := B5.cell0 (i := 0) (v := .int .i64 (T.length : Int)) rfl
        have x1 := B5.cell0 (i := 1) (v := .slice A7 T.length c7) rfl
        have x2 := B5.cell0 (i := 2) (v := .slice A8 T.length c8) rfl
        have x3 := B5.cell0 (i := 3) (v := .slice A9 T.length c9) rfl
        obtain ⟨y0, y1, y2, y3, y4, y5⟩ := play_cells M7.out.blk hi ET.out EN.out E1.out E2.out E3.out HH.out
        have yf := M7.out.blk.free
        have hE : (er == er) = true := beq_self_eq_true er
        clear r5 o5 B5 y0
        go_wp2_with fail
        refine wp_region_quiet_then 6 (by kernel_rfl) (by kernel_rfl) ?_
        simp only [List.take_succ_cons, List.take_zero, List.drop_succ_cons, List.drop_zero]
        repeat (go_big_quiet_step (fail))
        refine wpQuiet_nil ?_
        intro q9
        go_wp2_with fail
        have P8 := Lib.hid (PM.finish (M7.out.only ((Only.refl [] wc).drewN q9)) P0.out hi HH.out ED.out ET.out (T7.out.drewN q9) (R7.out.only ((Only.refl [] wc).drewN q9) rfl) (n := (T.length : Int)) (by rw [HTL.out]))
        clear x0 x1 x2 x3 y1 y2 y3 y4 y5 yf
        go_ret
        exact ⟨rfl, _, _, _, P8.out, Nat.le_succ _⟩
end Go.Proofs.Ytlidnlcmnkagaaa
