/- The law's step: Load of what a table tells. -/
import Derived.Test.YtlidnlcmnkagaaaWc
import Derived.Test.YtlidnlcmnkagaaaJS
namespace Go.Proofs.Ytlidnlcmnkagaaa
open Go.RowKit
set_option maxRecDepth 20000

theorem names_small {T : List Pl} (ok : TOk T) : ∀ s ∈ namesF T, s.size ≤ 140737488351232 := by
  intro s hs
  obtain ⟨p, -, rfl⟩ := List.mem_map.1 hs
  unfold nameOfF
  split
  · rename_i x hx
    obtain ⟨-, hx, -, -⟩ := find_some hx
    rcases (ok.bd _ x hx).2.2.2 with e | e
    · rw [e]; decide
    · unfold atomF at e
      simp only [Bool.and_eq_true, decide_eq_true_eq] at e
      have := e.1.1.1.1.1.2
      omega
  · decide
set_option maxHeartbeats 16000000 in
theorem step_load_no {W w : World} {pb : Nat} {C : Cl} {D : Nat → Gh} {L : List Pd} (P : PR W pb C D L w) (o : Ox) (hk : o.kd = 7) (hos : o.s.size ≤ 140737488351232) (_hL : (L.length + 1) * 16 ≤ 140737488355328) (hh : ∀ i, i < 3 → ((i : Nat) : Int) = wrap64 ((IntKind.u64.wrap o.on).tmod 3) → C.h i = false) :
    Calls Try.prog 7 #[ptA pb, .agg o.cs] w (OneE W pb L) := by
  obtain ⟨kd, on, at_, n, late, ⟨pn, pg⟩, s⟩ := o
  dsimp only at hk hos hh
  subst hk
  obtain ⟨i, hi, ei0⟩ := uint_mod 3 (by omega) (by omega) on
  replace hh := Lib.hid (hh i hi ei0.symm)
  obtain ⟨j, hj, ej0⟩ := uint_mod 3 (by omega) (by omega) at_
  have ei : wrap64 ((IntKind.u64.wrap on).tmod 3) = (i : Int) := ei0
  have ej : wrap64 ((IntKind.u64.wrap at_).tmod 3) = (j : Int) := ej0
  obtain ⟨W0, hW0⟩ : ∃ W0, W0 = w.alloc (.cells (Ox.mk 7 on at_ n late ⟨pn, pg⟩ s).cs tyO) := ⟨_, rfl⟩
  have b0 := (show Bk W0 w.heap.size tyO (Ox.mk 7 on at_ n late ⟨pn, pg⟩ s).cs from by rw [hW0]; exact Bk.made w _ _)
  have B0 := Lib.hid b0
  have O0 := (show Only [] w W0 from by rw [hW0]; exact (Only.refl [] w).alloc _)
  have P1 := Lib.hid (P.only O0)
  have HOS := Lib.hid hos
  have s0 := b0.cell0 (i := 0) (v := .int .i64 7) rfl
  have s1 := b0.cell0 (i := 1) (v := .int .i64 on) rfl
  have s2 := b0.cell0 (i := 2) (v := .int .i64 at_) rfl
  have s3 := b0.cell0 (i := 3) (v := .int .i64 n) rfl
  have pi : (i : Int) < 3 := by omega
  have pi0 : (0 : Int) ≤ (i : Int) := by omega
  have pj : (j : Int) < 3 := by omega
  have pj0 : (0 : Int) ≤ (j : Int) := by omega
  rw [hW0] at s0 s1 s2 s3
  clear P b0 O0 hos ei0 ej0
  go_enter Try.func7, Try.ntmps7
  go_wp2_with fail
  go_quiet (fail)
  rw [← hW0, ei, ej]
  have P2 := Lib.hid (P1.out.only ((Only.refl [] W0).drewN nq))
  have B2 := Lib.hid (B0.out.drewN nq)
  clear s0 s1 s2 s3 hW0 ei ej P1 B0
  generalize W0.drewN nq = W2 at *
  have s0 := B2.out.cell0 (i := 0) (v := .int .i64 7) rfl
  have t1 := (play_at P2.out.blk hi).2.2.2.2.2
  rw [hh.out] at t1
  clear hh
  go_wp2_with fail
  go_ret
  exact ⟨rfl, C, D, L, P2.out, Nat.le_succ _⟩
set_option maxHeartbeats 16000000 in
theorem step_load_yes {W w : World} {pb : Nat} {C : Cl} {D : Nat → Gh} {L : List Pd} (P : PR W pb C D L w) (o : Ox) (hk : o.kd = 7) (hos : o.s.size ≤ 140737488351232) (_hL : (L.length + 1) * 16 ≤ 140737488355328) (hh : ∀ i, i < 3 → ((i : Nat) : Int) = wrap64 ((IntKind.u64.wrap o.on).tmod 3) → C.h i = true) :
    Calls Try.prog 7 #[ptA pb, .agg o.cs] w (OneE W pb L) := by
  obtain ⟨kd, on, at_, n, late, ⟨pn, pg⟩, s⟩ := o
  dsimp only at hk hos hh
  subst hk
  obtain ⟨i, hi, ei0⟩ := uint_mod 3 (by omega) (by omega) on
  replace hh := Lib.hid (hh i hi ei0.symm)
  obtain ⟨j, hj, ej0⟩ := uint_mod 3 (by omega) (by omega) at_
  have ei : wrap64 ((IntKind.u64.wrap on).tmod 3) = (i : Int) := ei0
  have ej : wrap64 ((IntKind.u64.wrap at_).tmod 3) = (j : Int) := ej0
  obtain ⟨W0, hW0⟩ : ∃ W0, W0 = w.alloc (.cells (Ox.mk 7 on at_ n late ⟨pn, pg⟩ s).cs tyO) := ⟨_, rfl⟩
  have b0 := (show Bk W0 w.heap.size tyO (Ox.mk 7 on at_ n late ⟨pn, pg⟩ s).cs from by rw [hW0]; exact Bk.made w _ _)
  have B0 := Lib.hid b0
  have O0 := (show Only [] w W0 from by rw [hW0]; exact (Only.refl [] w).alloc _)
  have P1 := Lib.hid (P.only O0)
  have HOS := Lib.hid hos
  have s0 := b0.cell0 (i := 0) (v := .int .i64 7) rfl
  have s1 := b0.cell0 (i := 1) (v := .int .i64 on) rfl
  have s2 := b0.cell0 (i := 2) (v := .int .i64 at_) rfl
  have s3 := b0.cell0 (i := 3) (v := .int .i64 n) rfl
  have pi : (i : Int) < 3 := by omega
  have pi0 : (0 : Int) ≤ (i : Int) := by omega
  have pj : (j : Int) < 3 := by omega
  have pj0 : (0 : Int) ≤ (j : Int) := by omega
  rw [hW0] at s0 s1 s2 s3
  clear P b0 O0 hos ei0 ej0
  go_enter Try.func7, Try.ntmps7
  go_wp2_with fail
  go_quiet (fail)
  rw [← hW0, ei, ej]
  have P2 := Lib.hid (P1.out.only ((Only.refl [] W0).drewN nq))
  have B2 := Lib.hid (B0.out.drewN nq)
  clear s0 s1 s2 s3 hW0 ei ej P1 B0
  generalize W0.drewN nq = W2 at *
  have s0 := B2.out.cell0 (i := 0) (v := .int .i64 7) rfl
  rcases P2.out.sd i hi with ⟨h0, -⟩ | ⟨h0, et, en, tr, rt⟩
  case inl => rw [hh.out] at h0; cases h0
  generalize D i = d at et en tr rt
  obtain ⟨T, b, g, m, k⟩ := d
  dsimp only at et en tr rt
  obtain ⟨A1, c1, A2, c2, A3, c3, e1, e2, e3⟩ := rt.forms0
  rw [e1, e2, e3] at rt
  have HH := Lib.hid h0
  have EN := Lib.hid en
  have ET := Lib.hid et
  have E1 := Lib.hid e1
  have E2 := Lib.hid e2
  have E3 := Lib.hid e3
  have t1 := (play_at P2.out.blk hi).2.2.2.2.2
  rw [h0] at t1
  have t0 := (play_at P2.out.blk hi).1
  rw [et] at t0
  have RT' := Lib.hid rt
  have TR := Lib.hid tr
  have hlen := tr.ok.len
  clear h0 et en e1 e2 e3 rt tr hh
  have HCS := Lib.hid (show ∀ W' : World, Only [] W2 W' → W'.cell? ⟨pb, i, none⟩ = some (ptA b) ∧ W'.cell? ⟨pb, 3 + i * 4, none⟩ = some (.int .i64 (T.length : Int)) ∧ W'.cell? ⟨pb, 3 + i * 4 + 1, none⟩ = some (.slice A1 T.length c1) ∧ W'.cell? ⟨pb, 3 + i * 4 + 2, none⟩ = some (.slice A2 T.length c2) ∧ W'.cell? ⟨pb, 3 + i * 4 + 3, none⟩ = some (.slice A3 T.length c3) from fun W' oz => by
    obtain ⟨y0, y1', y2', y3', y4', -⟩ := play_cells (P2.out.only oz).blk hi ET.out EN.out E1.out E2.out E3.out HH.out
    exact ⟨y0, y1', y2', y3', y4'⟩)
  go_upto_region 23 with fail
  go_cut [12, 13] from 132 to 156 (fun v12 v13 wx => ∃ b' : Nat, v12 = ptA b' ∧ v13 = .int .i64 0 ∧ CopyOk W2 T b' wx)
  case first =>
    have b2 := HCS.out W2 (Only.refl _ _)
    have b2d := HCS.out W2.drew ((Only.refl [] W2).drew)
    have KG : Hid (∀ W', Only [] W2 W' → Calls Try.prog 28 #[ptA b] W' (fun e w' => e = .returned (.slice (some ⟨W'.heap.size, 0, none⟩) T.length T.length) ∧ OwnS KI w' W'.heap.size (.slice (some ⟨W'.heap.size, 0, none⟩) T.length T.length) (hads T) ∧ Only [] W' w')) := Lib.hid (fun W' o => gens_any (TR.out.only o (by simp) (by simp) (by simp)))
    have KV : Hid (∀ W', Only [] W2 W' → Calls Try.prog 22 #[ptA b] W' (RowE KP W' (pidsF T))) := Lib.hid (fun W' o => live_any (TR.out.only o (by simp) (by simp) (by simp)))
    have KN : Hid (∀ W', Only [] W2 W' → Calls Try.prog 29 #[.agg (rtC T.length (.slice A1 T.length c1) (.slice A2 T.length c2) (.slice A3 T.length c3))] W' (RowE KS W' (namesF T))) := Lib.hid (fun W' o => lnames_any (RT'.out.only o rfl) hlen.2)
    have KO : Hid (∀ W' A B Cc ca cb cc, RdS KI W' A (hads T) → RdS KP W' B (pidsF T) → RdS KS W' Cc (namesF T) → Calls Try.prog 11 #[.slice A T.length ca, .slice B (pidsF T).length cb, .slice Cc (pidsF T).length cc] W' (fun e w' => ∃ b', e = .returned (.tuple #[ptA b', .int .i64 0]) ∧ CopyOk W' T b' w')) := Lib.hid (fun W' A B Cc ca cb cc hA hB hC => by
      have e1 : (hads T).length = T.length := by simp
      have e3 : (namesF T).length = (pidsF T).length := by simp [namesF]
      have hpl : (pidsF T).length ≤ 256 := Nat.le_trans (pidsG_len T 0) hlen.2
      have := load_any ca cb cc hA hB hC (by simp; omega) (by omega) (by simp only [namesF, List.length_map]; omega) (names_small TR.out.ok)
      rw [load_tells TR.out.ok, e1, e3] at this
      exact this)
    clear t0 t1
    go_region_held3 (fun W' => W'.cell? ⟨pb, i, none⟩ = some (ptA b) ∧ W'.cell? ⟨pb, 3 + i * 4, none⟩ = some (.int .i64 (T.length : Int)) ∧ W'.cell? ⟨pb, 3 + i * 4 + 1, none⟩ = some (.slice A1 T.length c1) ∧ W'.cell? ⟨pb, 3 + i * 4 + 2, none⟩ = some (.slice A2 T.length c2) ∧ W'.cell? ⟨pb, 3 + i * 4 + 3, none⟩ = some (.slice A3 T.length c3)) (with_reducible (first | exact b2 | exact b2d | exact b3 | exact b4 | exact b5 | exact b6))
      (first
        | (go_at_call 28; (with_reducible refine (KG.out _ (by repeat (with_reducible (first | exact Only.refl _ _ | refine Only.drew ?_ | refine Only.drewN ?_ _)))).mono ?_); rintro e w3 ⟨rfl, h3, o3⟩; have o23 : Only [] W2 w3 := Only.trans (by repeat (with_reducible (first | exact Only.refl _ _ | refine Only.drew ?_ | refine Only.drewN ?_ _))) o3 (by simp); have O3 := Lib.hid o23; have b3 := HCS.out w3 o23; have R3 := Lib.hid (show RdS KI w3 (some ⟨W2.heap.size, 0, none⟩) (hads T) from h3.rd'); clear h3 o3 o23)
        | (go_at_call 22; (with_reducible refine (KV.out _ O3.out).mono ?_); rintro e w4 ⟨v4, rfl, h4, o4⟩; obtain ⟨A4, c4, rfl, -, -, -, -⟩ := h4.form; have o24 := O3.out.trans o4 (by simp); have O4 := Lib.hid o24; have b4 := HCS.out w4 o24; have R34 := Lib.hid (R3.out.only o4 (by simp)); have R4 := Lib.hid h4.rd'; clear h4 o4 o24)
        | (go_at_call 29; (with_reducible refine (KN.out _ O4.out).mono ?_); rintro e w5 ⟨v5, rfl, h5, o5⟩; obtain ⟨A5, c5, rfl, -, -, -, -⟩ := h5.form; have o25 := O4.out.trans o5 (by simp); have O5 := Lib.hid o25; have b5 := HCS.out w5 o25; have R35 := Lib.hid (R34.out.only o5 (by simp)); have R45 := Lib.hid (R4.out.only o5 (by simp)); have R5 := Lib.hid h5.rd'; clear h5 o5 o25)
        | (go_at_call 11; (with_reducible refine (KO.out _ _ _ _ _ _ _ R35.out R45.out R5.out).mono ?_); rintro e w6 ⟨b', rfl, g', m', k', t6, ⟨z1, z2, z3⟩, o6⟩; have b6 := HCS.out w6 (O5.out.trans o6 (by simp)); have X6 := Lib.hid (show CopyOk W2 T b' w6 from ⟨g', m', k', t6, ⟨Nat.le_trans O5.out.size z1, Nat.le_trans O5.out.size z2, Nat.le_trans O5.out.size z3⟩, O5.out.trans o6 (by simp)⟩); clear t6 z1 z2 z3 o6)
        | fail)
    all_goals
      go_wp2_with fail
      go_meet
      exact ⟨b', rfl, rfl, X6.out⟩
  case rest =>
    obtain ⟨b', rfl, rfl, g', m', k', t4, z4, o4⟩ := hcut
    have P5 := Lib.hid (P2.out.only o4)
    have Z4 := Lib.hid z4
    have N5 := Lib.hid (show PN W pb C D L j wc (ptA b') (T.length : Int) (.slice A1 T.length c1) (.slice A2 T.length c2) (.slice A3 T.length c3) true ⟨T, b', g', m', k'⟩ from ⟨P5.out.part j, .inr ⟨rfl, rfl, rfl, t4, RT'.out.only o4 rfl⟩⟩)
    have t0 := (play_at P5.out.blk hj).1
    have tf := P5.out.blk.free
    clear s0 t1 t4 z4 o4
    go_upto_region 25 with fail
    have N6 := Lib.hid (N5.out.setT hj)
    clear t0 tf N5
    generalize World.setCell _ ⟨pb, j, none⟩ _ = w6 at *
    obtain ⟨-, y1, y2, y3, y4, -⟩ := play_at N6.out.1.blk hj
    obtain ⟨-, x1, x2, x3, x4, -⟩ := play_at N6.out.1.blk hi
    dsimp only at x1 x2 x3 x4
    rw [EN.out] at x1
    rw [E1.out] at x2
    rw [E2.out] at x3
    rw [E3.out] at x4
    have yf := N6.out.1.blk.free
    refine wp_region_quiet_then 11 (by kernel_rfl) (by kernel_rfl) ?_
    simp only [List.take_succ_cons, List.take_zero, List.drop_succ_cons, List.drop_zero]
    repeat (go_big_quiet_step (fail))
    refine wpQuiet_nil ?_
    intro q9
    go_upto_region 26 with fail
    have N7 := Lib.hid ((N6.out.drewN q9).setR hj)
    clear x1 x2 x3 x4 y1 y2 y3 y4 yf N6
    generalize ((((w6.drewN q9).setCell ⟨pb, 3 + j * 4, none⟩ (.int .i64 (T.length : Int))).setCell ⟨pb, 3 + j * 4 + 1, none⟩ (.slice A1 T.length c1)).setCell ⟨pb, 3 + j * 4 + 2, none⟩ (.slice A2 T.length c2)).setCell ⟨pb, 3 + j * 4 + 3, none⟩ (.slice A3 T.length c3) = w7 at *
    obtain ⟨-, -, -, -, -, y5⟩ := play_at N7.out.1.blk hj
    have yf := N7.out.1.blk.free
    go_upto_region 27 with fail
    have N8 := Lib.hid (N7.out.setH hj)
    clear y5 yf N7
    generalize w7.setCell ⟨pb, 15 + j, none⟩ _ = w8 at *
    have P8 := Lib.hid (N8.out.close hj P2.out (upd_at _ _ _) (upd_at _ _ _) (upd_at _ _ _) (upd_at _ _ _) (upd_at _ _ _) (upd_at _ _ _) (fun _ hn => upd_ne _ _ hn) (fun _ => Z4.out))
    clear N8
    go_wp2_with fail
    go_ret
    exact ⟨rfl, _, _, _, P8.out, Nat.le_succ _⟩
end Go.Proofs.Ytlidnlcmnkagaaa
