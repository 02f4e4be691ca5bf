/- The law's one: what is told of one pid and one name. -/
import Derived.Test.YtlidnlcmnkagaaaJX
namespace Go.Proofs.Ytlidnlcmnkagaaa
open Go.RowKit
set_option maxRecDepth 20000

set_option maxHeartbeats 16000000 in
theorem one_yes5 {W w : World} {pb i : Nat} {C : Cl} {D : Nat → Gh} {L : List Pd} (P : PR W pb C D L w) (hi : i < 3) (hh : C.h i = true) (o : Ox) (hk : o.kd = 5) (hos : o.s.size ≤ 140737488351232) (hL : (L.length + 1) * 16 ≤ 140737488355328) :
    Calls Try.prog 26 #[ptA pb, .int .i64 (i : Int), .agg o.cs] w (OneE W pb L) := by
  obtain ⟨kd, on, at_, n, late, ⟨pn, pg⟩, s⟩ := o
  dsimp only at hk hos
  subst hk
  have pi : (i : Int) < 3 := by omega
  have pi0 : (0 : Int) ≤ (i : Int) := by omega
  rcases P.sd i hi with ⟨h1, -⟩ | ⟨-, et, en, tr, rt⟩
  case inl => rw [hh] at h1; cases h1
  generalize hD : D i = d at et en tr rt
  obtain ⟨T, b, g, m, k⟩ := d
  dsimp only at et en tr rt
  have EN := Lib.hid en
  have ET := Lib.hid et
  have ED := Lib.hid hD
  have TR := Lib.hid tr
  have RT' := Lib.hid rt
  have P0 := Lib.hid P
  have HOS := Lib.hid hos
  obtain ⟨W0, hW0⟩ : ∃ W0, W0 = w.alloc (.cells (Ox.mk 5 on at_ n late ⟨pn, pg⟩ s).cs tyO) := ⟨_, rfl⟩
  obtain ⟨W1, hW1⟩ : ∃ W1, W1 = W0.alloc (.cells (⟨pn, pg⟩ : Pd).cs 38) := ⟨_, rfl⟩
  have O0 := Lib.hid (show Only [] w W0 from by rw [hW0]; exact (Only.refl [] w).alloc _)
  have O01 := Lib.hid (show Only [] W0 W1 from by rw [hW1]; exact (Only.refl [] W0).alloc _)
  have Q1 := Lib.hid (show QR w.heap.size ⟨5, on, at_, n, late, ⟨pn, pg⟩, s⟩ ⟨pn, pg⟩ W1 from by rw [hW1, hW0]; exact ⟨(Bk.made w _ _).alloc _, Bk.newAt (by simp)⟩)
  have t0 := (play_at (P.only O0.out).blk hi).1
  rw [et] at t0
  have P1 := Lib.hid ((P.only O0.out).only O01.out)
  obtain ⟨AL, cL, eL, -, -, rL, -⟩ := P1.out.giv.form
  have RL := Lib.hid rL
  have gL : W1.cell? ⟨pb, 18, none⟩ = some C.g := P1.out.blk.cell0 (i := 18) rfl
  rw [eL] at gL
  have EL := Lib.hid eL
  have s4 := Q1.out.bo.cell0 (i := 4) (v := .int .i64 late) rfl
  have b0 := (show Bk W0 w.heap.size tyO (Ox.mk 5 on at_ n late ⟨pn, pg⟩ s).cs from by rw [hW0]; exact Bk.made w _ _)
  have s5 := b0.cell0 (i := 5) (v := .int .i64 pn) rfl
  have s6 := b0.cell0 (i := 6) (v := .int .i64 pg) rfl
  rw [hW0] at t0 s5 s6
  have HH := Lib.hid hh
  clear P rL b0 en hD tr rt et eL hos hh
  go_enter Try.func26, Try.ntmps26
  go_wp2_with fail
  rw [← hW0]
  rw [← hW1]
  have HW1 := Lib.hid hW1
  have HW0 := Lib.hid hW0
  clear t0 s5 s6 hW0 hW1
  go_cut [44] from 24 to 44 (fun v44 wx => v44 = .bool (decide (0 ≤ late) && decide (late < (L.length : Int))) ∧ ∃ n, wx = W1.drewN n)
  case first =>
    by_cases h1 : 0 ≤ late
    · have d1 : decide (0 ≤ late) = true := decide_eq_true h1
      go_quiet (fail)
      go_wp2_with fail
      go_meet
      exact ⟨by rw [d1, Bool.true_and], _, rfl⟩
    · have d1 : decide (0 ≤ late) = false := decide_eq_false h1
      go_quiet (fail)
      go_wp2_with fail
      go_meet
      exact ⟨by rw [d1, Bool.false_and], _, rfl⟩
  case rest =>
    obtain ⟨rfl, q1, rfl⟩ := hcut
    have P2 := Lib.hid (P1.out.only ((Only.refl [] W1).drewN q1))
    have Q2 := Lib.hid (Q1.out.only ((Only.refl [] W1).drewN q1) (by simp) (by simp))
    have O2 := Lib.hid ((O0.out.trans O01.out (by simp)).drewN q1)
    have RL2 := Lib.hid (RL.out.only0 ((Only.refl [] W1).drewN q1))
    clear s4 gL P1 Q1 RL O01 O0
    generalize W1.drewN q1 = W2 at *
    have hLL : (L.length : Int) ≤ 17592186044416 := by omega
    obtain ⟨lt, hlt⟩ : ∃ lt, lt = (decide (0 ≤ late) && decide (late < (L.length : Int))) := ⟨_, rfl⟩
    rw [← hlt]
    have HLT := Lib.hid hlt
    clear hlt
    go_upto_if 44 with fail
    go_cut [44] from 24 to 52 (fun _ wx => ∃ q : Pd, QR w.heap.size ⟨5, on, at_, n, late, ⟨pn, pg⟩, s⟩ q wx ∧ Only [] w wx)
    case first =>
      cases lt with
      | false =>
        go_wp2_with fail
        go_meet
        exact ⟨_, Q2.out, O2.out⟩
      | true =>
        have h2 := HLT.out.symm
        rw [Bool.and_eq_true, decide_eq_true_eq, decide_eq_true_eq] at h2
        obtain ⟨h2, h3⟩ := h2
        obtain ⟨j, rfl⟩ := Int.eq_ofNat_of_zero_le h2
        have hj : j < L.length := by omega
        obtain ⟨q, hq⟩ := some_at hj
        obtain ⟨bl, off, rfl, hb, hc⟩ := RdP.at2 RL2.out (by omega)
        obtain ⟨c0, c1⟩ := hc j q hq
        obtain ⟨qn, qg⟩ := q
        have gL : W2.cell? ⟨pb, 18, none⟩ = some C.g := P2.out.blk.cell0 (i := 18) rfl
        rw [EL.out] at gL
        have s4 := Q2.out.bo.cell0 (i := 4) (v := .int .i64 (j : Int)) rfl
        obtain ⟨p0, p1⟩ := Q2.out.bq.pid
        have pf := Q2.out.bq.free
        dsimp only at c0 c1
        have hs := Q2.out.bq.lt
        have N2 := Lib.hid (fun k : Nat => show QR w.heap.size ⟨5, on, at_, n, (j : Int), ⟨pn, pg⟩, s⟩ ⟨qn, qg⟩ (((W2.drewN k).setCell ⟨w.heap.size + 1, 0, none⟩ (.int .i64 qn)).setCell ⟨w.heap.size + 1, 1, none⟩ (.int .i64 qg)) ∧ Only [] w (((W2.drewN k).setCell ⟨w.heap.size + 1, 0, none⟩ (.int .i64 qn)).setCell ⟨w.heap.size + 1, 1, none⟩ (.int .i64 qg)) from
          ⟨⟨(((Q2.out.bo.drewN k).away (p := ⟨w.heap.size + 1, 0, none⟩) (by show w.heap.size ≠ w.heap.size + 1; omega) _).away (p := ⟨w.heap.size + 1, 1, none⟩) (by show w.heap.size ≠ w.heap.size + 1; omega) _), ((Q2.out.bq.drewN k).set 0 (.int .i64 qn)).set 1 (.int .i64 qg)⟩,
            (((O2.out.drewN k).set (p := ⟨w.heap.size + 1, 0, none⟩) (.inr (by show w.heap.size ≤ w.heap.size + 1; omega)) _).set (p := ⟨w.heap.size + 1, 1, none⟩) (.inr (by show w.heap.size ≤ w.heap.size + 1; omega)) _)⟩)
        clear hc hb hq h2 HLT
        go_wp2_with fail
        refine wp_region_quiet_then 8 (by kernel_rfl) (by kernel_rfl) ?_
        simp only [List.take_succ_cons, List.take_zero, List.drop_succ_cons, List.drop_zero]
        repeat (go_big_quiet_step (fail))
        refine wpQuiet_nil ?_
        intro q9
        go_wp2_with fail
        go_meet
        exact ⟨_, N2.out q9⟩
    case rest =>
      obtain ⟨⟨qn, qg⟩, q3, o3⟩ := hcut
      have Q3 := Lib.hid q3
      have O3 := Lib.hid o3
      have P3 := Lib.hid (P0.out.only o3)
      have x0 := q3.bo.cell0 (i := 0) (v := .int .i64 5) rfl
      clear q3 o3 RL2 P2 Q2 O2 HLT
      obtain ⟨A1, c1, A2, c2, A3, c3, e1, e2, e3⟩ := RT'.out.forms0
      have t3 := TR.out.only O3.out (by simp) (by simp) (by simp)
      have r3 := RT'.out.only O3.out rfl
      rw [e1, e2, e3] at r3
      have E1 := Lib.hid e1
      have E2 := Lib.hid e2
      have E3 := Lib.hid e3
      have T3 := Lib.hid t3
      have R3 := Lib.hid r3
      have hlen := t3.ok.len
      have HBD := Lib.hid (fun (n : Nat) (x : Pl) (h : T[n]? = some x) => (t3.ok.bd n x h).1.1)
      obtain ⟨yn, yg, ye, hy⟩ : ∃ yn yg ye, whereE (whereF T s) = pidE ⟨yn, yg⟩ ye := by
        cases whereF T s with
        | none => exact ⟨0, 0, 3, rfl⟩
        | some p => exact ⟨p.n, p.g, 0, rfl⟩
      have K1 := where_any t3 s
      rw [hy] at K1
      have K1 := Lib.hid K1
      have HY := Lib.hid hy
      have x2 := Q3.out.bo.cell0 (i := 7) (v := .string s) rfl
      clear e1 e2 e3 t3 r3 hy
      go_wp2_with fail
      (with_reducible refine K1.out.mono ?_)
      rintro e w4 ⟨rfl, o4⟩
      have o45 := o4.alloc (.cells #[.int .i64 yn, .int .i64 yg] 38)
      have P5 := Lib.hid (P3.out.only o45)
      have R5 := Lib.hid (R3.out.only o45 rfl)
      have T5 := Lib.hid (T3.out.only o45 (by simp) (by simp) (by simp))
      have Q5 := Lib.hid (Q3.out.only o45 (by simp) (by simp))
      have B5 := Lib.hid (Bk.made w4 38 #[.int .i64 yn, .int .i64 yg])
      clear o4 o45 K1 x2
      have y5 := (play_cells P5.out.blk hi ET.out EN.out E1.out E2.out E3.out HH.out).2.2.2.2.2
      go_upto_region 31 with fail
      clear y5
      generalize hw5 : w4.alloc (.cells #[.int .i64 yn, .int .i64 yg] 38) = w5 at *
      clear hw5
      have HCS := Lib.hid (show ∀ W' : World, Only [] w5 W' → W'.cell? ⟨pb, 3 + i * 4, none⟩ = some (.int .i64 (T.length : Int)) ∧ W'.cell? ⟨pb, 3 + i * 4 + 1, none⟩ = some (.slice A1 T.length c1) ∧ W'.cell? ⟨pb, 3 + i * 4 + 2, none⟩ = some (.slice A2 T.length c2) ∧ W'.cell? ⟨pb, 3 + i * 4 + 3, none⟩ = some (.slice A3 T.length c3) ∧ W'.cell? ⟨w.heap.size, 7, none⟩ = some (.string s) from fun W' oz => by
        obtain ⟨-, y1', y2', y3', y4', -⟩ := play_cells (P5.out.only oz).blk hi ET.out EN.out E1.out E2.out E3.out HH.out
        exact ⟨y1', y2', y3', y4', (Q5.out.only oz (by simp) (by simp)).bo.cell0 (i := 7) (v := .string s) rfl⟩)
      have KW : Hid (∀ W', RT W' (.slice A1 T.length c1) (.slice A2 T.length c2) (.slice A3 T.length c3) T → Calls Try.prog 34 #[.agg (rtC T.length (.slice A1 T.length c1) (.slice A2 T.length c2) (.slice A3 T.length c3)), .string s] W' fun e w' => e = .returned (pidE ⟨yn, yg⟩ ye) ∧ Only [] W' w') := Lib.hid (fun W' r => by have := rwhere_any r hlen.2 s; rw [HY.out] at this; exact this)
      go_cut [22, 23] from 190 to 227 (fun v22 v23 wx => ∃ b22 : Nat, v22 = .pointer (some ⟨b22, 0, none⟩) ∧ v23 = .int .i64 ye ∧ Bk wx b22 38 #[.int .i64 yn, .int .i64 yg] ∧ Only [] w5 wx)
      case first =>
        have b4 := HCS.out w5 (Only.refl _ _)
        have b4' := HCS.out (w5.alloc (.cells #[.int .i64 0, .int .i64 0] 38)) ((Only.refl [] w5).alloc _)
        have b4d := HCS.out w5.drew ((Only.refl [] w5).drew)
        have b4e := HCS.out (w5.alloc (.cells #[.int .i64 0, .int .i64 0] 38)).drew (((Only.refl [] w5).alloc _).drew)
        go_region_held3 (fun W' => W'.cell? ⟨pb, 3 + i * 4, none⟩ = some (.int .i64 (T.length : Int)) ∧ W'.cell? ⟨pb, 3 + i * 4 + 1, none⟩ = some (.slice A1 T.length c1) ∧ W'.cell? ⟨pb, 3 + i * 4 + 2, none⟩ = some (.slice A2 T.length c2) ∧ W'.cell? ⟨pb, 3 + i * 4 + 3, none⟩ = some (.slice A3 T.length c3) ∧ W'.cell? ⟨w.heap.size, 7, none⟩ = some (.string s)) (with_reducible (first | exact b4 | exact b4d | exact b4' | exact b4e | exact b5 | exact b5' | exact b6 | exact b7))
          (first
            | (go_at_call 34; (with_reducible refine (KW.out _ ?_).mono ?_); (focus (exact R5.out.only (by repeat (with_reducible (first | exact Only.refl _ _ | refine Only.drew ?_ | refine Only.drewN ?_ _ | refine Only.alloc ?_ _))) rfl)); rintro e w6 ⟨rfl, o5⟩; have o45 : Only [] w5 w6 := Only.trans (by repeat (with_reducible (first | exact Only.refl _ _ | refine Only.drew ?_ | refine Only.drewN ?_ _ | refine Only.alloc ?_ _))) o5 (by simp); have O5 := Lib.hid o45; have b5 := HCS.out w6 o45; have b5' := HCS.out (w6.alloc (.cells #[.int .i64 0, .int .i64 0] 38)) (o45.alloc _); have b6 := HCS.out (w6.alloc (.cells #[.int .i64 yn, .int .i64 yg] 38)) (o45.alloc _); have b7 := HCS.out _ (o45.trans (only2 w6 w5.heap.size (.int .i64 yn) (.int .i64 yg)) (by simp)); try (have zb : Bk w6 w5.heap.size 38 #[.int .i64 0, .int .i64 0] := Bk.only (by with_reducible (first | exact Bk.made _ _ _ | exact (Bk.made _ _ _).drew | exact (Bk.made _ _ _).drewN _)) o5 (by simp); have zc0 := zb.cell0 (i := 0) rfl; have zc1 := zb.cell0 (i := 1) rfl; have zcf := zb.free; have ZB := Lib.hid zb; clear zb); clear o5 o45)
            | fail)
        all_goals
          go_wp2_with fail
          go_meet
          first
            | (refine ⟨w5.heap.size, (by with_reducible rfl), rfl, ?_, ?_⟩
               rotate_left
               · exact O5.out.trans (only2 w6 w5.heap.size (.int .i64 yn) (.int .i64 yg)) (by simp)
               · exact ((ZB.out.set 0 (.int .i64 yn)).set 1 (.int .i64 yg)))
            | (refine ⟨w6.heap.size, (by with_reducible rfl), rfl, ?_, ?_⟩
               · (with_reducible exact Bk.made w6 _ _)
               · (with_reducible exact O5.out.alloc _))
      case rest =>
        obtain ⟨b22, rfl, rfl, B6, o6⟩ := hcut
        have P6 := Lib.hid (P5.out.only o6)
        have R6 := Lib.hid (R5.out.only o6 rfl)
        have T6 := Lib.hid (T5.out.only o6 (by simp) (by simp) (by simp))
        have Q6 := Lib.hid (Q5.out.only o6 (by simp) (by simp))
        have B7 := B5.out.only o6 (by simp)
        obtain ⟨-, y1, y2, y3, y4, -⟩ := play_cells P6.out.blk hi ET.out EN.out E1.out E2.out E3.out HH.out
        have k0 : ∀ x : Cm wc, x.1.cell? ⟨w4.heap.size, 0, none⟩ = some (.int .i64 yn) := Cm.cell (B7.cell0 rfl)
        have k1 : ∀ x : Cm wc, x.1.cell? ⟨w4.heap.size, 1, none⟩ = some (.int .i64 yg) := Cm.cell (B7.cell0 rfl)
        have k2 : ∀ x : Cm wc, x.1.cell? ⟨b22, 0, none⟩ = some (.int .i64 yn) := Cm.cell (B6.cell0 rfl)
        have k3 : ∀ x : Cm wc, x.1.cell? ⟨b22, 1, none⟩ = some (.int .i64 yg) := Cm.cell (B6.cell0 rfl)
        have k4 : ∀ x : Cm wc, x.1.cell? ⟨w.heap.size + 1, 0, none⟩ = some (.int .i64 qn) := Cm.cell Q6.out.bq.pid.1
        have k5 : ∀ x : Cm wc, x.1.cell? ⟨w.heap.size + 1, 1, none⟩ = some (.int .i64 qg) := Cm.cell Q6.out.bq.pid.2
        have k6 : ∀ x : Cm wc, x.1.cell? ⟨pb, 3 + i * 4, none⟩ = some (.int .i64 (T.length : Int)) := Cm.cell y1
        have k7 : ∀ x : Cm wc, x.1.cell? ⟨pb, 3 + i * 4 + 1, none⟩ = some (.slice A1 T.length c1) := Cm.cell y2
        have k8 : ∀ x : Cm wc, x.1.cell? ⟨pb, 3 + i * 4 + 2, none⟩ = some (.slice A2 T.length c2) := Cm.cell y3
        have k9 : ∀ x : Cm wc, x.1.cell? ⟨pb, 3 + i * 4 + 3, none⟩ = some (.slice A3 T.length c3) := Cm.cell y4
        obtain ⟨nm, hnm⟩ : ∃ nm, nm = nameOfF T ⟨qn, qg⟩ := ⟨_, rfl⟩
        obtain ⟨bb, hbb⟩ : ∃ bb, bb = isF T ⟨qn, qg⟩ := ⟨_, rfl⟩
        have KA : Hid (∀ x : Cm wc, Calls Try.prog 21 #[ptA b, .agg (⟨qn, qg⟩ : Pd).cs] x.1 fun e w' => e = .returned (.bool bb) ∧ Only [] x.1 w') := Lib.hid (by rw [hbb]; exact fun x => is_any (T6.out.only x.o (by simp) (by simp) (by simp)) ⟨qn, qg⟩)
        have KB : Hid (∀ x : Cm wc, Calls Try.prog 46 #[.agg (rtC T.length (.slice A1 T.length c1) (.slice A2 T.length c2) (.slice A3 T.length c3)), .agg (⟨qn, qg⟩ : Pd).cs] x.1 fun e w' => e = .returned (.bool bb) ∧ Only [] x.1 w') := Lib.hid (by rw [hbb]; exact fun x => ris_any (R6.out.only x.o rfl) ⟨qn, qg⟩)
        have KC : Hid (∀ x : Cm wc, Calls Try.prog 23 #[ptA b, .agg (⟨qn, qg⟩ : Pd).cs] x.1 fun e w' => e = .returned (.string nm) ∧ Only [] x.1 w') := Lib.hid (by rw [hnm]; exact fun x => nameOf_any (T6.out.only x.o (by simp) (by simp) (by simp)) ⟨qn, qg⟩)
        have KD : Hid (∀ x : Cm wc, Calls Try.prog 32 #[.agg (rtC T.length (.slice A1 T.length c1) (.slice A2 T.length c2) (.slice A3 T.length c3)), .agg (⟨qn, qg⟩ : Pd).cs] x.1 fun e w' => e = .returned (.string nm) ∧ Only [] x.1 w') := Lib.hid (by rw [hnm]; exact fun x => rnameOf_any (R6.out.only x.o rfl) ⟨qn, qg⟩)
        have hs1 : (nm.toList == nm.toList) = true := beq_self_eq_true _
        have hs2 : (bb == bb) = true := beq_self_eq_true _
        have hs3 : (ye == ye) = true := beq_self_eq_true _
        have hE : eq2 yn yg yn yg = true := by simp [eq2]
        clear hnm hbb y1 y2 y3 y4 B7 B6 o6
        go_wp2_with fail
        refine wp_region_calm (by kernel_rfl) (by kernel_rfl) ?_
        repeat (go_big_quiet_step ((first | (go_at_call 21; exact calmS (KA.out _)) | (go_at_call 46; exact calmS (KB.out _)) | (go_at_call 23; exact calmS (KC.out _)) | (go_at_call 32; exact calmS (KD.out _)))))
        refine wpQuiet_nil ?_
        rintro w8 ⟨⟨w8', o8⟩, e8⟩
        obtain rfl : w8 = w8' := e8
        have P8 := Lib.hid (P6.out.only o8)
        clear k0 k1 k2 k3 k4 k5 k6 k7 k8 k9 KA KB KC KD o8
        go_wp2_with fail
        go_ret
        exact ⟨rfl, C, D, L, P8.out, Nat.le_succ _⟩
end Go.Proofs.Ytlidnlcmnkagaaa
