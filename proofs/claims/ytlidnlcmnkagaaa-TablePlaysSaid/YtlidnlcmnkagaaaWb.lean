/- The law's step: New. -/
import Derived.Test.YtlidnlcmnkagaaaWa
namespace Go.Proofs.Ytlidnlcmnkagaaa
open Go.RowKit
set_option maxRecDepth 20000

/-- The play but for side i, and what side i is to be. -/
def PN (W : World) (pb : Nat) (C : Cl) (D : Nat → Gh) (L : List Pd) (i : Nat) (w : World) (t : Value) (n : Int) (a b c : Value) (h : Bool) (d : Gh) : Prop := PM W pb C D L i w ∧ SdOk w t n a b c h d
section
variable {W w w' w0 : World} {pb : Nat} {C C0 : Cl} {D : Nat → Gh} {L : List Pd} {i : Nat} {t a b c : Value} {n : Int} {h : Bool} {d : Gh}
theorem PN.only (N : PN W pb C D L i w t n a b c h d) (o : Only [] w w') : PN W pb C D L i w' t n a b c h d := ⟨N.1.only o, N.2.only o⟩
theorem PN.drewN (N : PN W pb C D L i w t n a b c h d) (q : Nat) : PN W pb C D L i (w.drewN q) t n a b c h d := N.only ((Only.refl [] w).drewN q)
theorem PN.setT (N : PN W pb C D L i w t n a b c h d) (hi : i < 3) : PN W pb { C with t := upd C.t i t } D L i (w.setCell ⟨pb, i, none⟩ t) t n a b c h d :=
  ⟨N.1.setT hi t, N.2.onlyK N.1.blk kip kbp ksp klp ktp ((Only.refl [pb] w).set (.inl (by simp)) t)⟩
theorem PN.setH (N : PN W pb C D L i w t n a b c h d) (hi : i < 3) : PN W pb { C with h := upd C.h i h } D L i (w.setCell ⟨pb, 15 + i, none⟩ (.bool h)) t n a b c h d :=
  ⟨N.1.setH hi h, N.2.onlyK N.1.blk kip kbp ksp klp ktp ((Only.refl [pb] w).set (.inl (by simp)) _)⟩
theorem PN.setR (N : PN W pb C D L i w t n a b c h d) (hi : i < 3) : PN W pb { C with n := upd C.n i n, a := upd C.a i a, b := upd C.b i b, c := upd C.c i c } D L i
    ((((w.setCell ⟨pb, 3 + i * 4, none⟩ (.int .i64 n)).setCell ⟨pb, 3 + i * 4 + 1, none⟩ a).setCell ⟨pb, 3 + i * 4 + 2, none⟩ b).setCell ⟨pb, 3 + i * 4 + 3, none⟩ c) t n a b c h d :=
  ⟨N.1.setR hi n a b c, N.2.onlyK N.1.blk kip kbp ksp klp ktp (((((Only.refl [pb] w).set (.inl (by simp)) _).set (.inl (by simp)) _).set (.inl (by simp)) _).set (.inl (by simp)) _)⟩
/-- All cells of side i are stored into: it is whole. -/
theorem PN.close (N : PN W pb C D L i w t n a b c h d) (hi : i < 3) (P : PR W pb C0 D L w0) (e1 : C.t i = t) (e2 : C.n i = n) (e3 : C.a i = a) (e4 : C.b i = b) (e5 : C.c i = c) (e6 : C.h i = h) (hh : ∀ j, j ≠ i → C.h j = C0.h j)
    (fr : h = true → w0.heap.size ≤ d.b ∧ w0.heap.size ≤ d.g ∧ w0.heap.size ≤ d.m) : PR W pb C (upd D i d) L w := by
  refine N.1.close hi d ?_ (fun h1 j hj hn hj' => ?_) (fun h1 => ?_)
  · rw [e1, e2, e3, e4, e5, e6]
    exact N.2
  · obtain ⟨-, f2, f3⟩ := fr (e6 ▸ h1)
    rw [hh j hn] at hj'
    exact P.fresh f2 f3 j hj hj'
  · obtain ⟨f1, f2, f3⟩ := fr (e6 ▸ h1)
    have := P.o.size
    omega
end
set_option maxHeartbeats 16000000 in
theorem step_new_no {W w : World} {pb : Nat} {C : Cl} {D : Nat → Gh} {L : List Pd} (P : PR W pb C D L w) (o : Ox) (hk : o.kd = 1) (hos : o.s.size ≤ 140737488351232) (_hL : (L.length + 1) * 16 ≤ 140737488355328) (hn : ¬ (1 ≤ o.n ∧ o.n ≤ 256)) :
    Calls Try.prog 7 #[ptA pb, .agg o.cs] w (OneE W pb L) := by
  obtain ⟨kd, on, at_, n, late, ⟨pn, pg⟩, s⟩ := o
  dsimp only at hk hos hn
  subst hk
  obtain ⟨i, hi, ei0⟩ := uint_mod 3 (by omega) (by omega) on
  obtain ⟨j, hj, ej0⟩ := uint_mod 3 (by omega) (by omega) at_
  have ei : wrap64 ((IntKind.u64.wrap on).tmod 3) = (i : Int) := ei0
  have ej : wrap64 ((IntKind.u64.wrap at_).tmod 3) = (j : Int) := ej0
  obtain ⟨W0, hW0⟩ : ∃ W0, W0 = w.alloc (.cells (Ox.mk 1 on at_ n late ⟨pn, pg⟩ s).cs tyO) := ⟨_, rfl⟩
  have b0 := (show Bk W0 w.heap.size tyO (Ox.mk 1 on at_ n late ⟨pn, pg⟩ s).cs from by rw [hW0]; exact Bk.made w _ _)
  have B0 := Lib.hid b0
  have O0 := (show Only [] w W0 from by rw [hW0]; exact (Only.refl [] w).alloc _)
  have P1 := Lib.hid (P.only O0)
  have HOS := Lib.hid hos
  have s0 := b0.cell0 (i := 0) (v := .int .i64 1) rfl
  have s1 := b0.cell0 (i := 1) (v := .int .i64 on) rfl
  have s2 := b0.cell0 (i := 2) (v := .int .i64 at_) rfl
  have s3 := b0.cell0 (i := 3) (v := .int .i64 n) rfl
  have pi : (i : Int) < 3 := by omega
  have pi0 : (0 : Int) ≤ (i : Int) := by omega
  have pj : (j : Int) < 3 := by omega
  have pj0 : (0 : Int) ≤ (j : Int) := by omega
  rw [hW0] at s0 s1 s2 s3
  clear P b0 O0 hos ei0 ej0
  go_enter Try.func7, Try.ntmps7
  go_wp2_with fail
  go_quiet (fail)
  rw [← hW0, ei, ej]
  have P2 := Lib.hid (P1.out.only ((Only.refl [] W0).drewN nq))
  have B2 := Lib.hid (B0.out.drewN nq)
  clear s0 s1 s2 s3 hW0 ei ej P1 B0
  generalize W0.drewN nq = W2 at *
  have s0 := B2.out.cell0 (i := 0) (v := .int .i64 1) rfl
  have s3 := B2.out.cell0 (i := 3) (v := .int .i64 n) rfl
  have K1 := Lib.hid (new_no n W2 hn)
  have K2 := Lib.hid (rnew_no n W2 hn)
  clear hn
  go_wp2_with fail
  (with_reducible refine K1.out.mono ?_)
  rintro e w3 ⟨rfl, rfl⟩
  go_wp2_with fail
  (with_reducible refine K2.out.mono ?_)
  rintro e w4 ⟨rfl, o4⟩
  have o5 := o4.alloc (.cells rt0 30)
  have P5 := Lib.hid (P2.out.only o5)
  have N5 := Lib.hid (show PN W pb C D L i (w4.alloc (.cells rt0 30)) (.pointer none) 0 (.slice none 0 0) (.slice none 0 0) (.slice none 0 0) false ⟨[], 0, 0, 0, 0⟩ from ⟨P5.out.part i, SdOk.no _ _⟩)
  have B5 := Lib.hid (Bk.made w4 30 rt0)
  have t0 := (play_at P5.out.blk hi).1
  have tf := P5.out.blk.free
  clear o4 o5 K1 K2 s0 s3
  go_upto_region 7 with fail
  have N6 := Lib.hid (N5.out.setT hi)
  have B6 := Lib.hid (B5.out.away (p := ⟨pb, i, none⟩) (show w4.heap.size ≠ pb from B5.out.apart N5.out.1.blk (by decide +kernel)) (.pointer none))
  clear t0 tf N5 B5
  generalize (w4.alloc _).setCell ⟨pb, i, none⟩ _ = w6 at *
  have x0 := B6.out.cell0 (i := 0) (v := .int .i64 0) rfl
  have x1 := B6.out.cell0 (i := 1) (v := (.slice none 0 0)) rfl
  have x2 := B6.out.cell0 (i := 2) (v := (.slice none 0 0)) rfl
  have x3 := B6.out.cell0 (i := 3) (v := (.slice none 0 0)) rfl
  obtain ⟨-, y1, y2, y3, y4, -⟩ := play_at N6.out.1.blk hi
  have yf := N6.out.1.blk.free
  refine wp_region_quiet_then 6 (by kernel_rfl) (by kernel_rfl) ?_
  simp only [List.take_succ_cons, List.take_zero, List.drop_succ_cons, List.drop_zero]
  repeat (go_big_quiet_step (fail))
  refine wpQuiet_nil ?_
  intro q9
  go_upto_region 8 with fail
  have N7 := Lib.hid ((N6.out.drewN q9).setR hi)
  clear x0 x1 x2 x3 y1 y2 y3 y4 yf N6 B6
  generalize ((((w6.drewN q9).setCell ⟨pb, 3 + i * 4, none⟩ (.int .i64 0)).setCell ⟨pb, 3 + i * 4 + 1, none⟩ (.slice none 0 0)).setCell ⟨pb, 3 + i * 4 + 2, none⟩ (.slice none 0 0)).setCell ⟨pb, 3 + i * 4 + 3, none⟩ (.slice none 0 0) = w7 at *
  obtain ⟨-, -, -, -, -, y5⟩ := play_at N7.out.1.blk hi
  have yf := N7.out.1.blk.free
  have N8 := Lib.hid (N7.out.setH hi)
  have P8 := Lib.hid (N8.out.close hi P2.out (upd_at _ _ _) (upd_at _ _ _) (upd_at _ _ _) (upd_at _ _ _) (upd_at _ _ _) (upd_at _ _ _) (fun _ hn => upd_ne _ _ hn) (fun h => (by cases h)))
  clear N7 N8
  go_wp2_with fail
  go_ret
  exact ⟨rfl, _, _, _, P8.out, Nat.le_succ _⟩
set_option maxHeartbeats 16000000 in
theorem step_new_yes {W w : World} {pb : Nat} {C : Cl} {D : Nat → Gh} {L : List Pd} (P : PR W pb C D L w) (o : Ox) (hk : o.kd = 1) (hos : o.s.size ≤ 140737488351232) (_hL : (L.length + 1) * 16 ≤ 140737488355328) (hn : 1 ≤ o.n ∧ o.n ≤ 256) :
    Calls Try.prog 7 #[ptA pb, .agg o.cs] w (OneE W pb L) := by
  obtain ⟨kd, on, at_, n, late, ⟨pn, pg⟩, s⟩ := o
  dsimp only at hk hos hn
  obtain ⟨h1n, h2n⟩ := hn
  obtain ⟨m, rfl⟩ := Int.eq_ofNat_of_zero_le (show 0 ≤ n by omega)
  subst hk
  obtain ⟨i, hi, ei0⟩ := uint_mod 3 (by omega) (by omega) on
  obtain ⟨j, hj, ej0⟩ := uint_mod 3 (by omega) (by omega) at_
  have ei : wrap64 ((IntKind.u64.wrap on).tmod 3) = (i : Int) := ei0
  have ej : wrap64 ((IntKind.u64.wrap at_).tmod 3) = (j : Int) := ej0
  obtain ⟨W0, hW0⟩ : ∃ W0, W0 = w.alloc (.cells (Ox.mk 1 on at_ (m : Int) late ⟨pn, pg⟩ s).cs tyO) := ⟨_, rfl⟩
  have b0 := (show Bk W0 w.heap.size tyO (Ox.mk 1 on at_ (m : Int) late ⟨pn, pg⟩ s).cs from by rw [hW0]; exact Bk.made w _ _)
  have B0 := Lib.hid b0
  have O0 := (show Only [] w W0 from by rw [hW0]; exact (Only.refl [] w).alloc _)
  have P1 := Lib.hid (P.only O0)
  have HOS := Lib.hid hos
  have s0 := b0.cell0 (i := 0) (v := .int .i64 1) rfl
  have s1 := b0.cell0 (i := 1) (v := .int .i64 on) rfl
  have s2 := b0.cell0 (i := 2) (v := .int .i64 at_) rfl
  have s3 := b0.cell0 (i := 3) (v := .int .i64 (m : Int)) rfl
  have pi : (i : Int) < 3 := by omega
  have pi0 : (0 : Int) ≤ (i : Int) := by omega
  have pj : (j : Int) < 3 := by omega
  have pj0 : (0 : Int) ≤ (j : Int) := by omega
  rw [hW0] at s0 s1 s2 s3
  clear P b0 O0 hos ei0 ej0
  go_enter Try.func7, Try.ntmps7
  go_wp2_with fail
  go_quiet (fail)
  rw [← hW0, ei, ej]
  have P2 := Lib.hid (P1.out.only ((Only.refl [] W0).drewN nq))
  have B2 := Lib.hid (B0.out.drewN nq)
  clear s0 s1 s2 s3 hW0 ei ej P1 B0
  generalize W0.drewN nq = W2 at *
  have s0 := B2.out.cell0 (i := 0) (v := .int .i64 1) rfl
  have s3 := B2.out.cell0 (i := 3) (v := .int .i64 (m : Int)) rfl
  have K1 := Lib.hid (new_yes m W2 (by omega) (by omega))
  go_wp2_with fail
  (with_reducible refine K1.out.mono ?_)
  rintro e w3 ⟨b, g, mb, rfl, t3, ⟨z1, z2, z3⟩, o3⟩
  have s3 := (B2.out.only o3 (by simp)).cell0 (i := 3) (v := .int .i64 (m : Int)) rfl
  have P3 := Lib.hid (P2.out.only o3)
  have T3 := Lib.hid t3
  have Z3 := Lib.hid (And.intro z1 (And.intro z2 z3))
  have K2 := Lib.hid (rnew_yes m w3 (by omega) (by omega))
  clear t3 z1 z2 z3 o3 K1 h1n h2n
  go_wp2_with fail
  (with_reducible refine K2.out.mono ?_)
  rintro e w4 ⟨u1, u2, u3, rfl, r4, o4⟩
  obtain ⟨A7, c7, A8, c8, A9, c9, f7, f8, f9⟩ := r4.forms0
  have hz : (zeroT m).length = m := by simp [zeroT]
  rw [hz] at f7 f8 f9
  subst f7 f8 f9
  have o45 : Only [] w4 (w4.alloc (.cells (rtC m (.slice A7 m c7) (.slice A8 m c8) (.slice A9 m c9)) 30)) := (Only.refl [] w4).alloc _
  have o5 := o4.trans o45 (by simp)
  have P5 := Lib.hid (P3.out.only o5)
  have N5 := Lib.hid (show PN W pb C D L i (w4.alloc (.cells (rtC m (.slice A7 m c7) (.slice A8 m c8) (.slice A9 m c9)) 30)) (ptA b) (m : Int) (.slice A7 m c7) (.slice A8 m c8) (.slice A9 m c9) true ⟨zeroT m, b, g, mb, m⟩ from
    ⟨P5.out.part i, .inr ⟨rfl, rfl, by rw [hz], T3.out.only o5 (by simp) (by simp) (by simp), r4.only o45 rfl⟩⟩)
  have B5 := Lib.hid (Bk.made w4 30 (rtC m (.slice A7 m c7) (.slice A8 m c8) (.slice A9 m c9)))
  have t0 := (play_at P5.out.blk hi).1
  have tf := P5.out.blk.free
  clear o4 o45 o5 K2 s0 s3 r4 hz
  go_upto_region 7 with fail
  have N6 := Lib.hid (N5.out.setT hi)
  have B6 := Lib.hid (B5.out.away (p := ⟨pb, i, none⟩) (show w4.heap.size ≠ pb from B5.out.apart N5.out.1.blk (by decide +kernel)) (ptA b))
  clear t0 tf N5 B5
  generalize (w4.alloc _).setCell ⟨pb, i, none⟩ _ = w6 at *
  have x0 := B6.out.cell0 (i := 0) (v := .int .i64 (m : Int)) rfl
  have x1 := B6.out.cell0 (i := 1) (v := (.slice A7 m c7)) rfl
  have x2 := B6.out.cell0 (i := 2) (v := (.slice A8 m c8)) rfl
  have x3 := B6.out.cell0 (i := 3) (v := (.slice A9 m c9)) rfl
  obtain ⟨-, y1, y2, y3, y4, -⟩ := play_at N6.out.1.blk hi
  have yf := N6.out.1.blk.free
  refine wp_region_quiet_then 6 (by kernel_rfl) (by kernel_rfl) ?_
  simp only [List.take_succ_cons, List.take_zero, List.drop_succ_cons, List.drop_zero]
  repeat (go_big_quiet_step (fail))
  refine wpQuiet_nil ?_
  intro q9
  go_upto_region 8 with fail
  have N7 := Lib.hid ((N6.out.drewN q9).setR hi)
  clear x0 x1 x2 x3 y1 y2 y3 y4 yf N6 B6
  generalize ((((w6.drewN q9).setCell ⟨pb, 3 + i * 4, none⟩ (.int .i64 (m : Int))).setCell ⟨pb, 3 + i * 4 + 1, none⟩ (.slice A7 m c7)).setCell ⟨pb, 3 + i * 4 + 2, none⟩ (.slice A8 m c8)).setCell ⟨pb, 3 + i * 4 + 3, none⟩ (.slice A9 m c9) = w7 at *
  obtain ⟨-, -, -, -, -, y5⟩ := play_at N7.out.1.blk hi
  have yf := N7.out.1.blk.free
  have N8 := Lib.hid (N7.out.setH hi)
  have P8 := Lib.hid (N8.out.close hi P2.out (upd_at _ _ _) (upd_at _ _ _) (upd_at _ _ _) (upd_at _ _ _) (upd_at _ _ _) (upd_at _ _ _) (fun _ hn => upd_ne _ _ hn) (fun _ => Z3.out))
  clear N7 N8
  go_wp2_with fail
  go_ret
  exact ⟨rfl, _, _, _, P8.out, Nat.le_succ _⟩
end Go.Proofs.Ytlidnlcmnkagaaa
