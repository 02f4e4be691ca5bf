/- The law's one: a table is given one more actor. -/
import Derived.Test.YtlidnlcmnkagaaaJW
namespace Go.Proofs.Ytlidnlcmnkagaaa
open Go.RowKit
set_option maxRecDepth 20000

/-- Side i is whole again: its table holds T', the document's too. -/
theorem PM.finish {W w0 w : World} {pb i : Nat} {C : Cl} {D : Nat → Gh} {L : List Pd} (M : PM W pb C D L i w) (P : PR W pb C D L w0) (hi : i < 3) (hh : C.h i = true) {T : List Pl} {b g m k : Nat} (hD : D i = ⟨T, b, g, m, k⟩) (et : C.t i = ptA b)
    {T' : List Pl} (t : TRep w b g m k T') {s1 s2 s3 : Value} (r : RT w s1 s2 s3 T') {n : Int} (hn : n = (T'.length : Int)) :
    PR W pb { C with n := upd C.n i n, a := upd C.a i s1, b := upd C.b i s2, c := upd C.c i s3 } (upd D i ⟨T', b, g, m, k⟩) L
      ((((w.setCell ⟨pb, 3 + i * 4, none⟩ (.int .i64 n)).setCell ⟨pb, 3 + i * 4 + 1, none⟩ s1).setCell ⟨pb, 3 + i * 4 + 2, none⟩ s2).setCell ⟨pb, 3 + i * 4 + 3, none⟩ s3) := by
  subst hn
  have o : Only [pb] w ((((w.setCell ⟨pb, 3 + i * 4, none⟩ (.int .i64 (T'.length : Int))).setCell ⟨pb, 3 + i * 4 + 1, none⟩ s1).setCell ⟨pb, 3 + i * 4 + 2, none⟩ s2).setCell ⟨pb, 3 + i * 4 + 3, none⟩ s3) :=
    ((((Only.refl [pb] w).set (.inl (by simp)) _).set (.inl (by simp)) _).set (.inl (by simp)) _).set (.inl (by simp)) _
  have S : SdOk w (ptA b) (T'.length : Int) s1 s2 s3 true ⟨T', b, g, m, k⟩ := .inr ⟨rfl, rfl, rfl, t, r⟩
  have S' := S.onlyK M.blk kip kbp ksp klp ktp o
  refine (M.setR hi (T'.length : Int) s1 s2 s3).close hi ⟨T', b, g, m, k⟩ ?_ (fun _ j hj hn hj' => ?_) (fun _ => ?_)
  · show SdOk _ (C.t i) (upd C.n i _ i) (upd C.a i _ i) (upd C.b i _ i) (upd C.c i _ i) (C.h i) _
    rw [upd_at, upd_at, upd_at, upd_at, et, hh]
    exact S'
  · have := P.ap i j hi hj (Ne.symm hn) hh hj'
    rw [hD] at this
    exact this
  · have := P.lo i hi hh
    rw [hD] at this
    exact this
theorem PR.give' {W w w1 : World} {pb : Nat} {C : Cl} {D : Nat → Gh} {L L' : List Pd} (P : PR W pb C D L w) {v vg : Value} (hg : C.g = vg) (g : w.grownBy w1 vg.ownBlock) (h : OwnS KP w1 W.heap.size v L') : PR W pb { C with g := v } D L' (w1.setCell ⟨pb, 18, none⟩ v) :=
  P.give (by rw [hg]; exact g) h
theorem PR.kept {W w w1 : World} {pb : Nat} {C : Cl} {D : Nat → Gh} {L : List Pd} (P : PR W pb C D L w) {vg : Value} (hg : C.g = vg) (g : w.grownBy w1 vg.ownBlock) : Bk w1 pb tyP (playC C) :=
  P.blk.only (Only.of_grown g) (by rw [← hg]; exact P.giv.apartB P.blk kpp)
theorem play_cells {w : World} {pb : Nat} {C : Cl} (h : Bk w pb tyP (playC C)) {i : Nat} (hi : i < 3) {b n : Nat} {v1 v2 v3 : Value} (e0 : C.t i = ptA b) (e1 : C.n i = (n : Int)) (e2 : C.a i = v1) (e3 : C.b i = v2) (e4 : C.c i = v3) (e5 : C.h i = true) :
    w.cell? ⟨pb, i, none⟩ = some (ptA b) ∧ w.cell? ⟨pb, 3 + i * 4, none⟩ = some (.int .i64 (n : Int)) ∧ w.cell? ⟨pb, 3 + i * 4 + 1, none⟩ = some v1 ∧ w.cell? ⟨pb, 3 + i * 4 + 2, none⟩ = some v2 ∧ w.cell? ⟨pb, 3 + i * 4 + 3, none⟩ = some v3 ∧ w.cell? ⟨pb, 15 + i, none⟩ = some (.bool true) := by
  have := play_at h hi
  rw [e0, e1, e2, e3, e4, e5] at this
  exact this
theorem add_len (T : List Pl) : (addF T).1.length = T.length := by
  unfold addF
  split
  · rw [List.length_set]
  · rfl
theorem free_len (T : List Pl) (p : Pd) : (freeF T p).1.length = T.length := by
  unfold freeF
  split
  · rw [List.length_set]
  · rfl
theorem name_len (T : List Pl) (p : Pd) (s : ByteArray) : (nameF T p s).1.length = T.length := by
  unfold nameF
  split
  · rfl
  · split
    · rfl
    · split
      · rfl
      · rw [List.length_set]
set_option maxHeartbeats 16000000 in
theorem one_yes2 {W w : World} {pb i : Nat} {C : Cl} {D : Nat → Gh} {L : List Pd} (P : PR W pb C D L w) (hi : i < 3) (hh : C.h i = true) (o : Ox) (hk : o.kd = 2) (hos : o.s.size ≤ 140737488351232) (hL : (L.length + 1) * 16 ≤ 140737488355328) :
    Calls Try.prog 26 #[ptA pb, .int .i64 (i : Int), .agg o.cs] w (OneE W pb L) := by
  obtain ⟨kd, on, at_, n, late, ⟨pn, pg⟩, s⟩ := o
  dsimp only at hk hos
  subst hk
  have pi : (i : Int) < 3 := by omega
  have pi0 : (0 : Int) ≤ (i : Int) := by omega
  rcases P.sd i hi with ⟨h1, -⟩ | ⟨-, et, en, tr, rt⟩
  case inl => rw [hh] at h1; cases h1
  generalize hD : D i = d at et en tr rt
  obtain ⟨T, b, g, m, k⟩ := d
  dsimp only at et en tr rt
  have EN := Lib.hid en
  have ET := Lib.hid et
  have ED := Lib.hid hD
  have TR := Lib.hid tr
  have RT' := Lib.hid rt
  have P0 := Lib.hid P
  have HOS := Lib.hid hos
  obtain ⟨W0, hW0⟩ : ∃ W0, W0 = w.alloc (.cells (Ox.mk 2 on at_ n late ⟨pn, pg⟩ s).cs tyO) := ⟨_, rfl⟩
  obtain ⟨W1, hW1⟩ : ∃ W1, W1 = W0.alloc (.cells (⟨pn, pg⟩ : Pd).cs 38) := ⟨_, rfl⟩
  have O0 := Lib.hid (show Only [] w W0 from by rw [hW0]; exact (Only.refl [] w).alloc _)
  have O01 := Lib.hid (show Only [] W0 W1 from by rw [hW1]; exact (Only.refl [] W0).alloc _)
  have Q1 := Lib.hid (show QR w.heap.size ⟨2, on, at_, n, late, ⟨pn, pg⟩, s⟩ ⟨pn, pg⟩ W1 from by rw [hW1, hW0]; exact ⟨(Bk.made w _ _).alloc _, Bk.newAt (by simp)⟩)
  have t0 := (play_at (P.only O0.out).blk hi).1
  rw [et] at t0
  have P1 := Lib.hid ((P.only O0.out).only O01.out)
  obtain ⟨AL, cL, eL, -, -, rL, -⟩ := P1.out.giv.form
  have RL := Lib.hid rL
  have gL : W1.cell? ⟨pb, 18, none⟩ = some C.g := P1.out.blk.cell0 (i := 18) rfl
  rw [eL] at gL
  have EL := Lib.hid eL
  have s4 := Q1.out.bo.cell0 (i := 4) (v := .int .i64 late) rfl
  have b0 := (show Bk W0 w.heap.size tyO (Ox.mk 2 on at_ n late ⟨pn, pg⟩ s).cs from by rw [hW0]; exact Bk.made w _ _)
  have s5 := b0.cell0 (i := 5) (v := .int .i64 pn) rfl
  have s6 := b0.cell0 (i := 6) (v := .int .i64 pg) rfl
  rw [hW0] at t0 s5 s6
  have HH := Lib.hid hh
  clear P rL b0 en hD tr rt et eL hos hh
  go_enter Try.func26, Try.ntmps26
  go_wp2_with fail
  rw [← hW0]
  rw [← hW1]
  have HW1 := Lib.hid hW1
  have HW0 := Lib.hid hW0
  clear t0 s5 s6 hW0 hW1
  go_cut [44] from 24 to 44 (fun v44 wx => v44 = .bool (decide (0 ≤ late) && decide (late < (L.length : Int))) ∧ ∃ n, wx = W1.drewN n)
  case first =>
    by_cases h1 : 0 ≤ late
    · have d1 : decide (0 ≤ late) = true := decide_eq_true h1
      go_quiet (fail)
      go_wp2_with fail
      go_meet
      exact ⟨by rw [d1, Bool.true_and], _, rfl⟩
    · have d1 : decide (0 ≤ late) = false := decide_eq_false h1
      go_quiet (fail)
      go_wp2_with fail
      go_meet
      exact ⟨by rw [d1, Bool.false_and], _, rfl⟩
  case rest =>
    obtain ⟨rfl, q1, rfl⟩ := hcut
    have P2 := Lib.hid (P1.out.only ((Only.refl [] W1).drewN q1))
    have Q2 := Lib.hid (Q1.out.only ((Only.refl [] W1).drewN q1) (by simp) (by simp))
    have O2 := Lib.hid ((O0.out.trans O01.out (by simp)).drewN q1)
    have RL2 := Lib.hid (RL.out.only0 ((Only.refl [] W1).drewN q1))
    clear s4 gL P1 Q1 RL O01 O0
    generalize W1.drewN q1 = W2 at *
    have hLL : (L.length : Int) ≤ 17592186044416 := by omega
    obtain ⟨lt, hlt⟩ : ∃ lt, lt = (decide (0 ≤ late) && decide (late < (L.length : Int))) := ⟨_, rfl⟩
    rw [← hlt]
    have HLT := Lib.hid hlt
    clear hlt
    go_upto_if 44 with fail
    go_cut [44] from 24 to 52 (fun _ wx => ∃ q : Pd, QR w.heap.size ⟨2, on, at_, n, late, ⟨pn, pg⟩, s⟩ q wx ∧ Only [] w wx)
    case first =>
      cases lt with
      | false =>
        go_wp2_with fail
        go_meet
        exact ⟨_, Q2.out, O2.out⟩
      | true =>
        have h2 := HLT.out.symm
        rw [Bool.and_eq_true, decide_eq_true_eq, decide_eq_true_eq] at h2
        obtain ⟨h2, h3⟩ := h2
        obtain ⟨j, rfl⟩ := Int.eq_ofNat_of_zero_le h2
        have hj : j < L.length := by omega
        obtain ⟨q, hq⟩ := some_at hj
        obtain ⟨bl, off, rfl, hb, hc⟩ := RdP.at2 RL2.out (by omega)
        obtain ⟨c0, c1⟩ := hc j q hq
        obtain ⟨qn, qg⟩ := q
        have gL : W2.cell? ⟨pb, 18, none⟩ = some C.g := P2.out.blk.cell0 (i := 18) rfl
        rw [EL.out] at gL
        have s4 := Q2.out.bo.cell0 (i := 4) (v := .int .i64 (j : Int)) rfl
        obtain ⟨p0, p1⟩ := Q2.out.bq.pid
        have pf := Q2.out.bq.free
        dsimp only at c0 c1
        have hs := Q2.out.bq.lt
        have N2 := Lib.hid (fun k : Nat => show QR w.heap.size ⟨2, on, at_, n, (j : Int), ⟨pn, pg⟩, s⟩ ⟨qn, qg⟩ (((W2.drewN k).setCell ⟨w.heap.size + 1, 0, none⟩ (.int .i64 qn)).setCell ⟨w.heap.size + 1, 1, none⟩ (.int .i64 qg)) ∧ Only [] w (((W2.drewN k).setCell ⟨w.heap.size + 1, 0, none⟩ (.int .i64 qn)).setCell ⟨w.heap.size + 1, 1, none⟩ (.int .i64 qg)) from
          ⟨⟨(((Q2.out.bo.drewN k).away (p := ⟨w.heap.size + 1, 0, none⟩) (by show w.heap.size ≠ w.heap.size + 1; omega) _).away (p := ⟨w.heap.size + 1, 1, none⟩) (by show w.heap.size ≠ w.heap.size + 1; omega) _), ((Q2.out.bq.drewN k).set 0 (.int .i64 qn)).set 1 (.int .i64 qg)⟩,
            (((O2.out.drewN k).set (p := ⟨w.heap.size + 1, 0, none⟩) (.inr (by show w.heap.size ≤ w.heap.size + 1; omega)) _).set (p := ⟨w.heap.size + 1, 1, none⟩) (.inr (by show w.heap.size ≤ w.heap.size + 1; omega)) _)⟩)
        clear hc hb hq h2 HLT
        go_wp2_with fail
        refine wp_region_quiet_then 8 (by kernel_rfl) (by kernel_rfl) ?_
        simp only [List.take_succ_cons, List.take_zero, List.drop_succ_cons, List.drop_zero]
        repeat (go_big_quiet_step (fail))
        refine wpQuiet_nil ?_
        intro q9
        go_wp2_with fail
        go_meet
        exact ⟨_, N2.out q9⟩
    case rest =>
      obtain ⟨⟨qn, qg⟩, q3, o3⟩ := hcut
      have Q3 := Lib.hid q3
      have O3 := Lib.hid o3
      have P3 := Lib.hid (P0.out.only o3)
      have x0 := q3.bo.cell0 (i := 0) (v := .int .i64 2) rfl
      clear q3 o3 RL2 P2 Q2 O2 HLT
      obtain ⟨A1, c1, A2, c2, A3, c3, e1, e2, e3⟩ := RT'.out.forms0
      have t3 := TR.out.only O3.out (by simp) (by simp) (by simp)
      have r3 := RT'.out.only O3.out rfl
      rw [e1, e2, e3] at r3
      have E1 := Lib.hid e1
      have E2 := Lib.hid e2
      have E3 := Lib.hid e3
      have T3 := Lib.hid t3
      have R3 := Lib.hid r3
      have hlen := t3.ok.len
      have HBD := Lib.hid (fun (n : Nat) (x : Pl) (h : T[n]? = some x) => (t3.ok.bd n x h).1.1)
      obtain ⟨T', pa, er, hadd⟩ : ∃ T' pa er, addF T = (T', pa, er) := ⟨_, _, _, rfl⟩
      obtain ⟨an, ag⟩ := pa
      have hTl : T'.length = T.length := by have := add_len T; rw [hadd] at this; exact this
      have K1 := add_any t3
      rw [hadd] at K1
      have K1 := Lib.hid K1
      have HTL := Lib.hid hTl
      have HAD := Lib.hid hadd
      clear e1 e2 e3 t3 r3 hadd hTl
      go_wp2_with fail
      (with_reducible refine K1.out.mono ?_)
      rintro e w4 ⟨rfl, t4, o4⟩
      have HGB := Lib.hid (show ∀ x ∈ (Value.slice AL L.length cL).ownBlock.toList, x < w4.heap.size from fun x hx => by have h1 := (P3.out.giv.own_ge x (by rw [EL.out]; exact hx)).2; have h2 := o4.size; omega)
      have o45 : Only [] w4 (w4.alloc (.cells #[.int .i64 an, .int .i64 ag] 38)) := (Only.refl [] w4).alloc _
      have M5 := Lib.hid ((P3.out.turn hi HH.out (by rw [ED.out]; exact T3.out) (by rw [ED.out]; exact o4.more (by simp))).only o45)
      have R5 := Lib.hid ((R3.out.byTable T3.out (o4.more (by simp))).only o45 rfl)
      have T5 := Lib.hid (t4.only o45 (by simp) (by simp) (by simp))
      have B5 := Lib.hid (Bk.made w4 38 #[.int .i64 an, .int .i64 ag])
      obtain ⟨y0, y1, y2, y3, y4, y5⟩ := play_cells M5.out.blk hi ET.out EN.out E1.out E2.out E3.out HH.out
      have K2 := radd_any R5.out hlen.2 HBD.out
      rw [HAD.out] at K2
      have K2 := Lib.hid K2
      clear K1 t4 o4 o45
      go_wp2_with fail
      (with_reducible refine K2.out.mono ?_)
      rintro e w6 ⟨u1, u2, u3, rfl, r6, o6⟩
      obtain ⟨A7, c7, A8, c8, A9, c9, f7, f8, f9⟩ := r6.forms0
      rw [HTL.out] at f7 f8 f9
      subst f7 f8 f9
      have HS6 := Lib.hid (show w4.heap.size ≤ w6.heap.size + 1 from by have := o6.size; simp at this; omega)
      have o67 : Only [] w6 ((w6.alloc (.cells (rtC T.length (.slice A7 T.length c7) (.slice A8 T.length c8) (.slice A9 T.length c9)) 30)).alloc (.cells #[.int .i64 an, .int .i64 ag] 38)) := ((Only.refl [] w6).alloc _).alloc _
      have o7 := o6.trans o67 (by simp)
      have M7 := Lib.hid (M5.out.only o7)
      have R7 := Lib.hid (r6.only o67 rfl)
      have T7 := Lib.hid (T5.out.only o7 (by simp) (by simp) (by simp))
      have B7 := Lib.hid (B5.out.only o7 (by simp))
      have C7 := Lib.hid ((Bk.made w6 30 (rtC T.length (.slice A7 T.length c7) (.slice A8 T.length c8) (.slice A9 T.length c9))).alloc (.cells #[.int .i64 an, .int .i64 ag] 38))
      have D7 := Lib.hid (Bk.newAt (w := w6.alloc (.cells (rtC T.length (.slice A7 T.length c7) (.slice A8 T.length c8) (.slice A9 T.length c9)) 30)) (t := 38) (cs := #[.int .i64 an, .int .i64 ag]) (b := w6.heap.size + 1) (by simp))
      have x0 := C7.out.cell0 (i := 0) (v := .int .i64 (T.length : Int)) rfl
      have x1 := C7.out.cell0 (i := 1) (v := .slice A7 T.length c7) rfl
      have x2 := C7.out.cell0 (i := 2) (v := .slice A8 T.length c8) rfl
      have x3 := C7.out.cell0 (i := 3) (v := .slice A9 T.length c9) rfl
      obtain ⟨y0, y1, y2, y3, y4, y5⟩ := play_cells M7.out.blk hi ET.out EN.out E1.out E2.out E3.out HH.out
      have yf := M7.out.blk.free
      clear K2 o6 o67 o7 r6
      go_wp2_with fail
      generalize (w6.alloc (.cells (rtC T.length (.slice A7 T.length c7) (.slice A8 T.length c8) (.slice A9 T.length c9)) 30)).alloc (.cells #[.int .i64 an, .int .i64 ag] 38) = w7 at *
      refine wp_region_quiet_then 6 (by kernel_rfl) (by kernel_rfl) ?_
      simp only [List.take_succ_cons, List.take_zero, List.drop_succ_cons, List.drop_zero]
      repeat (go_big_quiet_step (fail))
      refine wpQuiet_nil ?_
      intro q9
      go_wp2_with fail
      have n1 : w4.heap.size ≠ pb := B7.out.apart M7.out.blk kpp
      have n2 : w6.heap.size + 1 ≠ pb := D7.out.apart M7.out.blk kpp
      have o8 : Only [pb] (w7.drewN q9) _ := ((((Only.refl [pb] (w7.drewN q9)).set (p := ⟨pb, 3 + i * 4, none⟩) (.inl (by simp)) (.int .i64 (T.length : Int))).set (p := ⟨pb, 3 + i * 4 + 1, none⟩) (.inl (by simp)) (.slice A7 T.length c7)).set (p := ⟨pb, 3 + i * 4 + 2, none⟩) (.inl (by simp)) (.slice A8 T.length c8)).set (p := ⟨pb, 3 + i * 4 + 3, none⟩) (.inl (by simp)) (.slice A9 T.length c9)
      have P8 := Lib.hid (PM.finish (M7.out.only ((Only.refl [] w7).drewN q9)) P0.out hi HH.out ED.out ET.out (T7.out.drewN q9) (R7.out.only ((Only.refl [] w7).drewN q9) rfl) (n := (T.length : Int)) (by rw [HTL.out]))
      have N1 := Lib.hid n1
      have N2 := Lib.hid n2
      have B8 := Lib.hid ((B7.out.drewN q9).only o8 (by simp [n1]))
      have D8 := Lib.hid ((D7.out.drewN q9).only o8 (by simp [n2]))
      clear x0 x1 x2 x3 y0 y1 y2 y3 y4 y5 yf M7 T7 R7 B7 C7 D7 o8 n1 n2
      generalize ((((w7.drewN q9).setCell ⟨pb, 3 + i * 4, none⟩ (.int .i64 (T.length : Int))).setCell ⟨pb, 3 + i * 4 + 1, none⟩ (.slice A7 T.length c7)).setCell ⟨pb, 3 + i * 4 + 2, none⟩ (.slice A8 T.length c8)).setCell ⟨pb, 3 + i * 4 + 3, none⟩ (.slice A9 T.length c9) = W8 at *
      generalize hC8 : ({ C with n := upd C.n i (T.length : Int), a := upd C.a i (.slice A7 T.length c7), b := upd C.b i (.slice A8 T.length c8), c := upd C.c i (.slice A9 T.length c9) } : Cl) = C8 at P8
      generalize upd D i ⟨T', b, g, m, k⟩ = D8' at P8
      have hg8 : C8.g = .slice AL L.length cL := by rw [← hC8]; exact EL.out
      have HG8 := Lib.hid hg8
      have gL : W8.cell? ⟨pb, 18, none⟩ = some C8.g := P8.out.blk.cell0 (i := 18) rfl
      rw [hg8] at gL
      have d0 := D8.out.cell0 (i := 0) (v := .int .i64 an) rfl
      have d1 := D8.out.cell0 (i := 1) (v := .int .i64 ag) rfl
      have LP : ∀ o, PR W pb C8 D8' L ((W8.alloc o).drew) := fun o => P8.out.only (((Only.refl [] W8).alloc o).drewN 1)
      have LV : ∀ o, OwnS KP ((W8.alloc o).drew) W.heap.size (.slice AL L.length cL) L := fun o => hg8 ▸ (LP o).giv
      have LBx : ∀ o, Bk ((W8.alloc o).drew) w4.heap.size 38 #[.int .i64 an, .int .i64 ag] := fun o => (B8.out.alloc o).drewN 1
      have LDx : ∀ o, Bk ((W8.alloc o).drew) (w6.heap.size + 1) 38 #[.int .i64 an, .int .i64 ag] := fun o => (D8.out.alloc o).drewN 1
      have LB : ∀ o, W.heap.size ≤ ((W8.alloc o).drew).heap.size := fun o => (LP o).o.size
      have d1' : ∀ o, (W8.alloc o).cell? ⟨pb, 18, none⟩ = some (.slice AL L.length cL) := fun o => by have := (LP o).blk.cell0 (i := 18) rfl; rw [show (playC C8)[18] = C8.g from rfl, hg8] at this; exact this
      have LL : (L.length + 1) * KP.by' ≤ 140737488355328 := hL
      clear hC8 hg8
      go_region_law ((refine step_appS KP (by rfl) _ _ (by rfl) (base := W.heap.size) (v := .slice AL L.length cL) (by rfl) (LV _) _ (⟨an, ag⟩ : Pd) (by rfl) (RdS.one (Bk.newAt (by simp)) rfl) (LB _) LL _ rfl ?_; intro g9 cap9 w9 hown hgrow hat hlt9; have NX := Lib.hid (PR.give' (LP _) HG8.out hgrow hown); have k9 := PR.kept (LP _) HG8.out hgrow; have k18 := k9.cell0 (i := 18) (v := C8.g) rfl; have kf := k9.free; have B9 := Lib.hid (((LBx _).only (Only.of_grown hgrow) (fun hm => by have := HGB.out _ hm; omega)).away (p := ⟨pb, 18, none⟩) N1.out (.slice (some ⟨g9, 0, none⟩) (L.length + 1) cap9)); have D9 := Lib.hid (((LDx _).only (Only.of_grown hgrow) (fun hm => by have := HGB.out _ hm; have := HS6.out; omega)).away (p := ⟨pb, 18, none⟩) N2.out (.slice (some ⟨g9, 0, none⟩) (L.length + 1) cap9)); (rw [HG8.out] at k18); clear hgrow hown hat k9))
      all_goals
        have hE : eq2 an ag an ag = true := by simp [eq2]
        have z0 := B9.out.cell0 (i := 0) (v := .int .i64 an) rfl
        have z1 := B9.out.cell0 (i := 1) (v := .int .i64 ag) rfl
        have z2 := D9.out.cell0 (i := 0) (v := .int .i64 an) rfl
        have z3 := D9.out.cell0 (i := 1) (v := .int .i64 ag) rfl
        clear LP LV LBx LDx LB d1'
        go_wp2_with fail
        go_ret
        exact ⟨rfl, _, _, _, NX.out, by simp⟩
end Go.Proofs.Ytlidnlcmnkagaaa
