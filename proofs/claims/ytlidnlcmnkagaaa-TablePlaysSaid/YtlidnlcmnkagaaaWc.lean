/- The law's step: Copy. -/
import Derived.Test.YtlidnlcmnkagaaaWb
namespace Go.Proofs.Ytlidnlcmnkagaaa
open Go.RowKit
set_option maxRecDepth 20000

theorem upd_same {f : Nat → Bool} {j i : Nat} {v : Bool} (h : f i = v) : upd f j v i = v := by
  have := upd_self f j i
  rwa [h] at this
set_option maxHeartbeats 16000000 in
theorem step_copy_no {W w : World} {pb : Nat} {C : Cl} {D : Nat → Gh} {L : List Pd} (P : PR W pb C D L w) (o : Ox) (hk : o.kd = 6) (hos : o.s.size ≤ 140737488351232) (_hL : (L.length + 1) * 16 ≤ 140737488355328) (hh : ∀ i, i < 3 → ((i : Nat) : Int) = wrap64 ((IntKind.u64.wrap o.on).tmod 3) → C.h i = false) :
    Calls Try.prog 7 #[ptA pb, .agg o.cs] w (OneE W pb L) := by
  obtain ⟨kd, on, at_, n, late, ⟨pn, pg⟩, s⟩ := o
  dsimp only at hk hos hh
  subst hk
  obtain ⟨i, hi, ei0⟩ := uint_mod 3 (by omega) (by omega) on
  replace hh := Lib.hid (hh i hi ei0.symm)
  obtain ⟨j, hj, ej0⟩ := uint_mod 3 (by omega) (by omega) at_
  have ei : wrap64 ((IntKind.u64.wrap on).tmod 3) = (i : Int) := ei0
  have ej : wrap64 ((IntKind.u64.wrap at_).tmod 3) = (j : Int) := ej0
  obtain ⟨W0, hW0⟩ : ∃ W0, W0 = w.alloc (.cells (Ox.mk 6 on at_ n late ⟨pn, pg⟩ s).cs tyO) := ⟨_, rfl⟩
  have b0 := (show Bk W0 w.heap.size tyO (Ox.mk 6 on at_ n late ⟨pn, pg⟩ s).cs from by rw [hW0]; exact Bk.made w _ _)
  have B0 := Lib.hid b0
  have O0 := (show Only [] w W0 from by rw [hW0]; exact (Only.refl [] w).alloc _)
  have P1 := Lib.hid (P.only O0)
  have HOS := Lib.hid hos
  have s0 := b0.cell0 (i := 0) (v := .int .i64 6) rfl
  have s1 := b0.cell0 (i := 1) (v := .int .i64 on) rfl
  have s2 := b0.cell0 (i := 2) (v := .int .i64 at_) rfl
  have s3 := b0.cell0 (i := 3) (v := .int .i64 n) rfl
  have pi : (i : Int) < 3 := by omega
  have pi0 : (0 : Int) ≤ (i : Int) := by omega
  have pj : (j : Int) < 3 := by omega
  have pj0 : (0 : Int) ≤ (j : Int) := by omega
  rw [hW0] at s0 s1 s2 s3
  clear P b0 O0 hos ei0 ej0
  go_enter Try.func7, Try.ntmps7
  go_wp2_with fail
  go_quiet (fail)
  rw [← hW0, ei, ej]
  have P2 := Lib.hid (P1.out.only ((Only.refl [] W0).drewN nq))
  have B2 := Lib.hid (B0.out.drewN nq)
  clear s0 s1 s2 s3 hW0 ei ej P1 B0
  generalize W0.drewN nq = W2 at *
  have s0 := B2.out.cell0 (i := 0) (v := .int .i64 6) rfl
  rcases P2.out.sd i hi with ⟨h0, et, en, ea, eb, ec⟩ | ⟨h1, -⟩
  case inr => rw [hh.out] at h1; cases h1
  have HH := Lib.hid h0
  have EN := Lib.hid en
  have E1 := Lib.hid ea
  have E2 := Lib.hid eb
  have E3 := Lib.hid ec
  have t0 := (play_at P2.out.blk hi).1
  rw [et] at t0
  clear h0 et en ea eb ec hh
  have K1 := Lib.hid (copy_nil W2)
  go_wp2_with fail
  (with_reducible refine K1.out.mono ?_)
  rintro e w4 ⟨rfl, rfl⟩
  have N5 := Lib.hid (show PN W pb C D L j W2 (.pointer none) 0 (.slice none 0 0) (.slice none 0 0) (.slice none 0 0) false ⟨[], 0, 0, 0, 0⟩ from ⟨P2.out.part j, SdOk.no _ _⟩)
  have t0 := (play_at P2.out.blk hj).1
  have tf := P2.out.blk.free
  clear K1 s0
  go_upto_region 18 with fail
  have N6 := Lib.hid (N5.out.setT hj)
  clear t0 tf N5
  generalize World.setCell _ ⟨pb, j, none⟩ _ = w6 at *
  obtain ⟨-, y1, y2, y3, y4, -⟩ := play_at N6.out.1.blk hj
  obtain ⟨-, x1, x2, x3, x4, -⟩ := play_at N6.out.1.blk hi
  dsimp only at x1 x2 x3 x4
  rw [EN.out] at x1
  rw [E1.out] at x2
  rw [E2.out] at x3
  rw [E3.out] at x4
  have yf := N6.out.1.blk.free
  refine wp_region_quiet_then 11 (by kernel_rfl) (by kernel_rfl) ?_
  simp only [List.take_succ_cons, List.take_zero, List.drop_succ_cons, List.drop_zero]
  repeat (go_big_quiet_step (fail))
  refine wpQuiet_nil ?_
  intro q9
  go_upto_region 19 with fail
  have N7 := Lib.hid ((N6.out.drewN q9).setR hj)
  clear x1 x2 x3 x4 y1 y2 y3 y4 yf N6
  generalize ((((w6.drewN q9).setCell ⟨pb, 3 + j * 4, none⟩ (.int .i64 0)).setCell ⟨pb, 3 + j * 4 + 1, none⟩ (.slice none 0 0)).setCell ⟨pb, 3 + j * 4 + 2, none⟩ (.slice none 0 0)).setCell ⟨pb, 3 + j * 4 + 3, none⟩ (.slice none 0 0) = w7 at *
  obtain ⟨-, -, -, -, -, y5⟩ := play_at N7.out.1.blk hj
  obtain ⟨-, -, -, -, -, y6⟩ := play_at N7.out.1.blk hi
  dsimp only at y6
  rw [HH.out] at y6
  have yf := N7.out.1.blk.free
  refine wp_region_quiet_then 11 (by kernel_rfl) (by kernel_rfl) ?_
  simp only [List.take_succ_cons, List.take_zero, List.drop_succ_cons, List.drop_zero]
  repeat (go_big_quiet_step (fail))
  refine wpQuiet_nil ?_
  intro q10
  go_upto_region 20 with fail
  have N8 := Lib.hid ((N7.out.drewN q10).setH hj)
  clear y5 y6 yf N7
  generalize (w7.drewN q10).setCell ⟨pb, 15 + j, none⟩ _ = w8 at *
  have P8 := Lib.hid (N8.out.close hj P2.out (upd_at _ _ _) (upd_at _ _ _) (upd_at _ _ _) (upd_at _ _ _) (upd_at _ _ _) (upd_at _ _ _) (fun _ hn => upd_ne _ _ hn) (fun h => (by cases h)))
  obtain ⟨-, -, -, -, -, y6⟩ := play_at N8.out.1.blk hi
  dsimp only at y6
  rw [upd_same HH.out] at y6
  clear N8
  go_wp2_with fail
  go_ret
  exact ⟨rfl, _, _, _, P8.out, Nat.le_succ _⟩
set_option maxHeartbeats 16000000 in
theorem step_copy_yes {W w : World} {pb : Nat} {C : Cl} {D : Nat → Gh} {L : List Pd} (P : PR W pb C D L w) (o : Ox) (hk : o.kd = 6) (hos : o.s.size ≤ 140737488351232) (_hL : (L.length + 1) * 16 ≤ 140737488355328) (hh : ∀ i, i < 3 → ((i : Nat) : Int) = wrap64 ((IntKind.u64.wrap o.on).tmod 3) → C.h i = true) :
    Calls Try.prog 7 #[ptA pb, .agg o.cs] w (OneE W pb L) := by
  obtain ⟨kd, on, at_, n, late, ⟨pn, pg⟩, s⟩ := o
  dsimp only at hk hos hh
  subst hk
  obtain ⟨i, hi, ei0⟩ := uint_mod 3 (by omega) (by omega) on
  replace hh := Lib.hid (hh i hi ei0.symm)
  obtain ⟨j, hj, ej0⟩ := uint_mod 3 (by omega) (by omega) at_
  have ei : wrap64 ((IntKind.u64.wrap on).tmod 3) = (i : Int) := ei0
  have ej : wrap64 ((IntKind.u64.wrap at_).tmod 3) = (j : Int) := ej0
  obtain ⟨W0, hW0⟩ : ∃ W0, W0 = w.alloc (.cells (Ox.mk 6 on at_ n late ⟨pn, pg⟩ s).cs tyO) := ⟨_, rfl⟩
  have b0 := (show Bk W0 w.heap.size tyO (Ox.mk 6 on at_ n late ⟨pn, pg⟩ s).cs from by rw [hW0]; exact Bk.made w _ _)
  have B0 := Lib.hid b0
  have O0 := (show Only [] w W0 from by rw [hW0]; exact (Only.refl [] w).alloc _)
  have P1 := Lib.hid (P.only O0)
  have HOS := Lib.hid hos
  have s0 := b0.cell0 (i := 0) (v := .int .i64 6) rfl
  have s1 := b0.cell0 (i := 1) (v := .int .i64 on) rfl
  have s2 := b0.cell0 (i := 2) (v := .int .i64 at_) rfl
  have s3 := b0.cell0 (i := 3) (v := .int .i64 n) rfl
  have pi : (i : Int) < 3 := by omega
  have pi0 : (0 : Int) ≤ (i : Int) := by omega
  have pj : (j : Int) < 3 := by omega
  have pj0 : (0 : Int) ≤ (j : Int) := by omega
  rw [hW0] at s0 s1 s2 s3
  clear P b0 O0 hos ei0 ej0
  go_enter Try.func7, Try.ntmps7
  go_wp2_with fail
  go_quiet (fail)
  rw [← hW0, ei, ej]
  have P2 := Lib.hid (P1.out.only ((Only.refl [] W0).drewN nq))
  have B2 := Lib.hid (B0.out.drewN nq)
  clear s0 s1 s2 s3 hW0 ei ej P1 B0
  generalize W0.drewN nq = W2 at *
  have s0 := B2.out.cell0 (i := 0) (v := .int .i64 6) rfl
  rcases P2.out.sd i hi with ⟨h0, -⟩ | ⟨h0, et, en, tr, rt⟩
  case inl => rw [hh.out] at h0; cases h0
  generalize D i = d at et en tr rt
  obtain ⟨T, b, g, m, k⟩ := d
  dsimp only at et en tr rt
  obtain ⟨A1, c1, A2, c2, A3, c3, e1, e2, e3⟩ := rt.forms0
  rw [e1, e2, e3] at rt
  have HH := Lib.hid h0
  have EN := Lib.hid en
  have ET := Lib.hid et
  have E1 := Lib.hid e1
  have E2 := Lib.hid e2
  have E3 := Lib.hid e3
  have t0 := (play_at P2.out.blk hi).1
  rw [et] at t0
  have RT' := Lib.hid rt
  have TR := Lib.hid tr
  have K1 := Lib.hid (copy_any tr)
  clear h0 et en e1 e2 e3 rt tr hh
  go_wp2_with fail
  (with_reducible refine K1.out.mono ?_)
  rintro e w4 ⟨b', rfl, g', m', k', t4, z4, o4⟩
  have P5 := Lib.hid (P2.out.only o4)
  have Z4 := Lib.hid z4
  have N5 := Lib.hid (show PN W pb C D L j w4 (ptA b') (T.length : Int) (.slice A1 T.length c1) (.slice A2 T.length c2) (.slice A3 T.length c3) true ⟨T, b', g', m', k'⟩ from ⟨P5.out.part j, .inr ⟨rfl, rfl, rfl, t4, RT'.out.only o4 rfl⟩⟩)
  have t0 := (play_at P5.out.blk hj).1
  have tf := P5.out.blk.free
  clear K1 s0 t4 z4 o4
  go_upto_region 18 with fail
  have N6 := Lib.hid (N5.out.setT hj)
  clear t0 tf N5
  generalize World.setCell _ ⟨pb, j, none⟩ _ = w6 at *
  obtain ⟨-, y1, y2, y3, y4, -⟩ := play_at N6.out.1.blk hj
  obtain ⟨-, x1, x2, x3, x4, -⟩ := play_at N6.out.1.blk hi
  dsimp only at x1 x2 x3 x4
  rw [EN.out] at x1
  rw [E1.out] at x2
  rw [E2.out] at x3
  rw [E3.out] at x4
  have yf := N6.out.1.blk.free
  refine wp_region_quiet_then 11 (by kernel_rfl) (by kernel_rfl) ?_
  simp only [List.take_succ_cons, List.take_zero, List.drop_succ_cons, List.drop_zero]
  repeat (go_big_quiet_step (fail))
  refine wpQuiet_nil ?_
  intro q9
  go_upto_region 19 with fail
  have N7 := Lib.hid ((N6.out.drewN q9).setR hj)
  clear x1 x2 x3 x4 y1 y2 y3 y4 yf N6
  generalize ((((w6.drewN q9).setCell ⟨pb, 3 + j * 4, none⟩ (.int .i64 (T.length : Int))).setCell ⟨pb, 3 + j * 4 + 1, none⟩ (.slice A1 T.length c1)).setCell ⟨pb, 3 + j * 4 + 2, none⟩ (.slice A2 T.length c2)).setCell ⟨pb, 3 + j * 4 + 3, none⟩ (.slice A3 T.length c3) = w7 at *
  obtain ⟨-, -, -, -, -, y5⟩ := play_at N7.out.1.blk hj
  obtain ⟨-, -, -, -, -, y6⟩ := play_at N7.out.1.blk hi
  dsimp only at y6
  rw [HH.out] at y6
  have yf := N7.out.1.blk.free
  refine wp_region_quiet_then 11 (by kernel_rfl) (by kernel_rfl) ?_
  simp only [List.take_succ_cons, List.take_zero, List.drop_succ_cons, List.drop_zero]
  repeat (go_big_quiet_step (fail))
  refine wpQuiet_nil ?_
  intro q10
  go_upto_region 20 with fail
  have N8 := Lib.hid ((N7.out.drewN q10).setH hj)
  clear y5 y6 yf N7
  generalize (w7.drewN q10).setCell ⟨pb, 15 + j, none⟩ _ = w8 at *
  have P8 := Lib.hid (N8.out.close hj P2.out (upd_at _ _ _) (upd_at _ _ _) (upd_at _ _ _) (upd_at _ _ _) (upd_at _ _ _) (upd_at _ _ _) (fun _ hn => upd_ne _ _ hn) (fun _ => Z4.out))
  obtain ⟨-, -, -, -, -, y6⟩ := play_at N8.out.1.blk hi
  dsimp only at y6
  rw [upd_same HH.out] at y6
  clear N8
  go_wp2_with fail
  go_ret
  exact ⟨rfl, _, _, _, P8.out, Nat.le_succ _⟩
end Go.Proofs.Ytlidnlcmnkagaaa
