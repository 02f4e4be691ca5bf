/- The document's Monitor. The document's Demon. -/
import Derived.Test.YtkodblhompphjaaVh
import Derived.Test.YtkodblhompphjaaVc
import Derived.Test.YtkodblhompphjaaVd
namespace Go.Proofs.Ytkodblhompphjaa
open Go.RowKit
set_option maxRecDepth 20000

theorem monF_no {l : List Te} {r : Int} {a p : Pd} (h : ¬ (okP a && okP p && decide (1 ≤ r ∧ r ≤ 4611686018427387903) && (findT l r).isNone) = true) : monF l r a p = (l, 1) := by
  unfold monF
  rw [if_neg h]
set_option maxHeartbeats 8000000 in
theorem rmonitor_any (A : Option Addr) (xs : List Te) (cap : Nat) (r : Int) (a b : Pd) (w : World) (h : RdS KT w A xs) (hl : xs.length * 40 + 4096 ≤ 140737488355328) :
    Calls Try.prog 29 #[.agg (tiC true (.slice A xs.length cap)), .int .i64 r, .agg a.cs, .agg b.cs] w fun e w' => ∃ v, e = .returned (.tuple #[.agg (tiC true v), .int .i64 (monF xs r a b).2]) ∧ LiesT w' w.heap.size v (.slice A xs.length cap) xs (monF xs r a b).1 ∧ Only [] w w' := by
  have hW : ∃ w0, w0 = (((w.alloc (.cells (tiC true (.slice A xs.length cap)) 27)).alloc (.cells a.cs 32)).alloc (.cells b.cs 32)).alloc (.cells (tiC false (.slice none 0 0)) 27) := ⟨_, rfl⟩
  obtain ⟨w0, e0⟩ := hW
  have O := Lib.hid (show Only [] w w0 from e0 ▸ ((((Only.refl [] w).alloc _).alloc _).alloc _).alloc _)
  have BT := Lib.hid (show Bk w0 w.heap.size 27 (tiC true (.slice A xs.length cap)) from e0 ▸ (((Bk.made w _ _).alloc _).alloc _).alloc _)
  have BA := Lib.hid (show Bk w0 (w.heap.size + 1) 32 a.cs from e0 ▸ ((Bk.newAt (by simp)).alloc _).alloc _)
  have BB := Lib.hid (show Bk w0 (w.heap.size + 1 + 1) 32 b.cs from e0 ▸ (Bk.newAt (by simp)).alloc _)
  have BR := Lib.hid (show Bk w0 (w.heap.size + 1 + 1 + 1) 27 (tiC false (.slice none 0 0)) from e0 ▸ Bk.newAt (by simp))
  have H := Lib.hid (h.only O.out (by simp))
  have hl1 : xs.length ≤ 17592186044416 := by omega
  have L1 : w.heap.size ≤ w.heap.size + 1 + 1 + 1 := by omega
  have KF := rfind_any true A xs cap r w0 H.out hl1
  have KA := Lib.hid (fun w => rokp_any a w)
  have KB := Lib.hid (fun w => rokp_any b w)
  obtain ⟨u, hua⟩ : ∃ u, okP a = u := ⟨_, rfl⟩
  obtain ⟨v, hub⟩ : ∃ v, okP b = v := ⟨_, rfl⟩
  rw [hua] at KA
  rw [hub] at KB
  clear h
  cases hf : findT xs r with
  | none =>
    rw [hf] at KF
    simp only [findV] at KF
    have KF := Lib.hid KF
    go_enter Try.func29, Try.ntmps29
    go_upto_region 1 with fail
    rw [← e0]
    clear e0
    have t0 := BT.out.cell0 (i := 0) rfl
    have t1 := BT.out.cell0 (i := 1) rfl
    go_wp2_with fail
    (with_reducible refine KF.out.mono ?_)
    rintro e w1 ⟨rfl, o1⟩
    have o2 := o1.alloc (.cells zT.cs 45)
    have O2 := Lib.hid (O.out.trans o2 (by simp))
    have T2 := Lib.hid (BT.out.only o2 (by simp))
    have A2 := Lib.hid (BA.out.only o2 (by simp))
    have B2 := Lib.hid (BB.out.only o2 (by simp))
    have R2 := Lib.hid (BR.out.only o2 (by simp))
    have H2 := Lib.hid (H.out.only o2 (by simp))
    clear o1 o2 t0 t1
    cases u with
    | false =>
      obtain ⟨a0, a1⟩ := A2.out.pid
      obtain ⟨b0, b1⟩ := B2.out.pid
      have t0 := T2.out.cell0 (i := 0) rfl
      have t1 := T2.out.cell0 (i := 1) rfl
      go_wp2_with fail
      (with_reducible refine (KA.out _).mono ?_)
      rintro e w3 ⟨rfl, o3⟩
      have T3 := Lib.hid (T2.out.only o3 (by simp))
      have A3 := Lib.hid (A2.out.only o3 (by simp))
      have B3 := Lib.hid (B2.out.only o3 (by simp))
      have R3 := Lib.hid (R2.out.only o3 (by simp))
      have H3 := Lib.hid (H2.out.only o3 (by simp))
      have O3 := Lib.hid (O2.out.trans o3 (by simp))
      clear o3 a0 a1 b0 b1 t0 t1
      have hu : monF xs r a b = (xs, 1) := monF_no (by rw [hua]; simp)
      have z0 := R3.out.cell0 (i := 0) rfl
      have z1 := R3.out.cell0 (i := 1) rfl
      have zf := R3.out.free
      have t0 := T3.out.cell0 (i := 0) rfl
      have t1 := T3.out.cell0 (i := 1) rfl
      go_wp2_with fail
      refine bodyPost_ret (v := .tuple #[.agg (tiC true (.slice A xs.length cap)), .int .i64 1]) (by simp [results, Try.results29, go_sem, z0, z1]) rfl ⟨_, by rw [hu], by rw [hu]; exact .inl ⟨rfl, rfl⟩, (O3.out.set (.inr L1) _).set (.inr L1) _⟩
    | true =>
      obtain ⟨a0, a1⟩ := A2.out.pid
      obtain ⟨b0, b1⟩ := B2.out.pid
      have t0 := T2.out.cell0 (i := 0) rfl
      have t1 := T2.out.cell0 (i := 1) rfl
      go_wp2_with fail
      (with_reducible refine (KA.out _).mono ?_)
      rintro e w3 ⟨rfl, o3⟩
      have T3 := Lib.hid (T2.out.only o3 (by simp))
      have A3 := Lib.hid (A2.out.only o3 (by simp))
      have B3 := Lib.hid (B2.out.only o3 (by simp))
      have R3 := Lib.hid (R2.out.only o3 (by simp))
      have H3 := Lib.hid (H2.out.only o3 (by simp))
      have O3 := Lib.hid (O2.out.trans o3 (by simp))
      clear o3 a0 a1 b0 b1 t0 t1
      cases v with
      | false =>
        obtain ⟨a0, a1⟩ := A3.out.pid
        obtain ⟨b0, b1⟩ := B3.out.pid
        have t0 := T3.out.cell0 (i := 0) rfl
        have t1 := T3.out.cell0 (i := 1) rfl
        go_wp2_with fail
        (with_reducible refine (KB.out _).mono ?_)
        rintro e w4 ⟨rfl, o4⟩
        have T4 := Lib.hid (T3.out.only o4 (by simp))
        have A4 := Lib.hid (A3.out.only o4 (by simp))
        have B4 := Lib.hid (B3.out.only o4 (by simp))
        have R4 := Lib.hid (R3.out.only o4 (by simp))
        have H4 := Lib.hid (H3.out.only o4 (by simp))
        have O4 := Lib.hid (O3.out.trans o4 (by simp))
        clear o4 a0 a1 b0 b1 t0 t1
        have hu : monF xs r a b = (xs, 1) := monF_no (by rw [hub]; simp)
        have z0 := R4.out.cell0 (i := 0) rfl
        have z1 := R4.out.cell0 (i := 1) rfl
        have zf := R4.out.free
        have t0 := T4.out.cell0 (i := 0) rfl
        have t1 := T4.out.cell0 (i := 1) rfl
        go_wp2_with fail
        refine bodyPost_ret (v := .tuple #[.agg (tiC true (.slice A xs.length cap)), .int .i64 1]) (by simp [results, Try.results29, go_sem, z0, z1]) rfl ⟨_, by rw [hu], by rw [hu]; exact .inl ⟨rfl, rfl⟩, (O4.out.set (.inr L1) _).set (.inr L1) _⟩
      | true =>
        obtain ⟨a0, a1⟩ := A3.out.pid
        obtain ⟨b0, b1⟩ := B3.out.pid
        have t0 := T3.out.cell0 (i := 0) rfl
        have t1 := T3.out.cell0 (i := 1) rfl
        go_wp2_with fail
        (with_reducible refine (KB.out _).mono ?_)
        rintro e w4 ⟨rfl, o4⟩
        have T4 := Lib.hid (T3.out.only o4 (by simp))
        have A4 := Lib.hid (A3.out.only o4 (by simp))
        have B4 := Lib.hid (B3.out.only o4 (by simp))
        have R4 := Lib.hid (R3.out.only o4 (by simp))
        have H4 := Lib.hid (H3.out.only o4 (by simp))
        have O4 := Lib.hid (O3.out.trans o4 (by simp))
        clear o4 a0 a1 b0 b1 t0 t1
        by_cases c1 : r < 1
        · have d1 : decide (r < 1) = true := decide_eq_true c1
          have hu : monF xs r a b = (xs, 1) := monF_no (by rw [decide_eq_false (show ¬ (1 ≤ r ∧ r ≤ 4611686018427387903) by omega)]; simp)
          have z0 := R4.out.cell0 (i := 0) rfl
          have z1 := R4.out.cell0 (i := 1) rfl
          have zf := R4.out.free
          have t0 := T4.out.cell0 (i := 0) rfl
          have t1 := T4.out.cell0 (i := 1) rfl
          go_wp2_with fail
          refine bodyPost_ret (v := .tuple #[.agg (tiC true (.slice A xs.length cap)), .int .i64 1]) (by simp [results, Try.results29, go_sem, z0, z1]) rfl ⟨_, by rw [hu], by rw [hu]; exact .inl ⟨rfl, rfl⟩, (O4.out.set (.inr L1) _).set (.inr L1) _⟩
        · have d1 : decide (r < 1) = false := decide_eq_false c1
          by_cases c2 : 4611686018427387903 < r
          · have d2 : decide (4611686018427387903 < r) = true := decide_eq_true c2
            have hu : monF xs r a b = (xs, 1) := monF_no (by rw [decide_eq_false (show ¬ (1 ≤ r ∧ r ≤ 4611686018427387903) by omega)]; simp)
            have z0 := R4.out.cell0 (i := 0) rfl
            have z1 := R4.out.cell0 (i := 1) rfl
            have zf := R4.out.free
            have t0 := T4.out.cell0 (i := 0) rfl
            have t1 := T4.out.cell0 (i := 1) rfl
            go_wp2_with fail
            refine bodyPost_ret (v := .tuple #[.agg (tiC true (.slice A xs.length cap)), .int .i64 1]) (by simp [results, Try.results29, go_sem, z0, z1]) rfl ⟨_, by rw [hu], by rw [hu]; exact .inl ⟨rfl, rfl⟩, (O4.out.set (.inr L1) _).set (.inr L1) _⟩
          · have d2 : decide (4611686018427387903 < r) = false := decide_eq_false c2
            have hy : (okP a && okP b && decide (1 ≤ r ∧ r ≤ 4611686018427387903) && (findT xs r).isNone) = true := by rw [hua, hub, hf, decide_eq_true (show 1 ≤ r ∧ r ≤ 4611686018427387903 by omega)]; rfl
            by_cases hb : 1024 ≤ xs.length
            · have hb' : (1024 : Int) ≤ (xs.length : Int) := by omega
              have hu : monF xs r a b = (xs, 150) := by unfold monF; rw [if_pos hy, if_pos hb]
              have z0 := R4.out.cell0 (i := 0) rfl
              have z1 := R4.out.cell0 (i := 1) rfl
              have zf := R4.out.free
              have t0 := T4.out.cell0 (i := 0) rfl
              have t1 := T4.out.cell0 (i := 1) rfl
              go_wp2_with fail
              refine bodyPost_ret (v := .tuple #[.agg (tiC true (.slice A xs.length cap)), .int .i64 150]) (by simp [results, Try.results29, go_sem, z0, z1]) rfl ⟨_, by rw [hu], by rw [hu]; exact .inl ⟨rfl, rfl⟩, (O4.out.set (.inr L1) _).set (.inr L1) _⟩
            · have hb' : ¬ (1024 : Int) ≤ (xs.length : Int) := by omega
              have hu : monF xs r a b = (putT xs ⟨r, a, b⟩, 0) := by unfold monF; rw [if_pos hy, if_neg hb]
              have HU := Lib.hid hu
              have KS := Lib.hid (rput_any true A xs cap ⟨r, a, b⟩ w4 H4.out hl)
              clear hu hy
              obtain ⟨a0, a1⟩ := A4.out.pid
              obtain ⟨b0, b1⟩ := B4.out.pid
              have t0 := T4.out.cell0 (i := 0) rfl
              have t1 := T4.out.cell0 (i := 1) rfl
              go_wp2_with fail
              (with_reducible refine KS.out.mono ?_)
              rintro e w6 ⟨v6, rfl, hv6, o6⟩
              obtain ⟨G6, c6, e6, -, -, -, -⟩ := hv6.form
              subst e6
              have r6 := R4.out.only o6 (by simp)
              have V6 := Lib.hid hv6
              have O6 := Lib.hid (O4.out.trans o6 (by simp))
              have hr3 := R4.out.lt
              have z0 := r6.cell0 (i := 0) rfl
              have z1 := r6.cell0 (i := 1) rfl
              have zf := r6.free
              clear o6 hv6 r6 t0 t1 a0 a1 b0 b1
              go_wp2_with fail
              refine bodyPost_ret (v := .tuple #[.agg (tiC true (.slice G6 (putT xs ⟨r, a, b⟩).length c6)), .int .i64 0]) (by simp [results, Try.results29, go_sem, z0, z1]) rfl ⟨_, by rw [HU.out], ?_, (O6.out.set (.inr L1) _).set (.inr L1) _⟩
              rw [HU.out]
              have oo := (((Only.refl [w.heap.size + 1 + 1 + 1] w6).set (p := ⟨w.heap.size + 1 + 1 + 1, 0, none⟩) (.inl (by simp)) (.bool true)).set (p := ⟨w.heap.size + 1 + 1 + 1, 1, none⟩) (.inl (by simp)) (.slice G6 (putT xs ⟨r, a, b⟩).length c6))
              exact .inr ((V6.out.low (by omega)).only oo (fun g' hg' => by have := (V6.out.block hg').1; simp; omega))
  | some x =>
    rw [hf] at KF
    simp only [findV] at KF
    have KF := Lib.hid KF
    go_enter Try.func29, Try.ntmps29
    go_upto_region 1 with fail
    rw [← e0]
    clear e0
    have t0 := BT.out.cell0 (i := 0) rfl
    have t1 := BT.out.cell0 (i := 1) rfl
    go_wp2_with fail
    (with_reducible refine KF.out.mono ?_)
    rintro e w1 ⟨rfl, o1⟩
    have o2 := o1.alloc (.cells x.cs 45)
    have O2 := Lib.hid (O.out.trans o2 (by simp))
    have T2 := Lib.hid (BT.out.only o2 (by simp))
    have A2 := Lib.hid (BA.out.only o2 (by simp))
    have B2 := Lib.hid (BB.out.only o2 (by simp))
    have R2 := Lib.hid (BR.out.only o2 (by simp))
    have H2 := Lib.hid (H.out.only o2 (by simp))
    clear o1 o2 t0 t1
    cases u with
    | false =>
      obtain ⟨a0, a1⟩ := A2.out.pid
      obtain ⟨b0, b1⟩ := B2.out.pid
      have t0 := T2.out.cell0 (i := 0) rfl
      have t1 := T2.out.cell0 (i := 1) rfl
      go_wp2_with fail
      (with_reducible refine (KA.out _).mono ?_)
      rintro e w3 ⟨rfl, o3⟩
      have T3 := Lib.hid (T2.out.only o3 (by simp))
      have A3 := Lib.hid (A2.out.only o3 (by simp))
      have B3 := Lib.hid (B2.out.only o3 (by simp))
      have R3 := Lib.hid (R2.out.only o3 (by simp))
      have H3 := Lib.hid (H2.out.only o3 (by simp))
      have O3 := Lib.hid (O2.out.trans o3 (by simp))
      clear o3 a0 a1 b0 b1 t0 t1
      have hu : monF xs r a b = (xs, 1) := monF_no (by rw [hua]; simp)
      have z0 := R3.out.cell0 (i := 0) rfl
      have z1 := R3.out.cell0 (i := 1) rfl
      have zf := R3.out.free
      have t0 := T3.out.cell0 (i := 0) rfl
      have t1 := T3.out.cell0 (i := 1) rfl
      go_wp2_with fail
      refine bodyPost_ret (v := .tuple #[.agg (tiC true (.slice A xs.length cap)), .int .i64 1]) (by simp [results, Try.results29, go_sem, z0, z1]) rfl ⟨_, by rw [hu], by rw [hu]; exact .inl ⟨rfl, rfl⟩, (O3.out.set (.inr L1) _).set (.inr L1) _⟩
    | true =>
      obtain ⟨a0, a1⟩ := A2.out.pid
      obtain ⟨b0, b1⟩ := B2.out.pid
      have t0 := T2.out.cell0 (i := 0) rfl
      have t1 := T2.out.cell0 (i := 1) rfl
      go_wp2_with fail
      (with_reducible refine (KA.out _).mono ?_)
      rintro e w3 ⟨rfl, o3⟩
      have T3 := Lib.hid (T2.out.only o3 (by simp))
      have A3 := Lib.hid (A2.out.only o3 (by simp))
      have B3 := Lib.hid (B2.out.only o3 (by simp))
      have R3 := Lib.hid (R2.out.only o3 (by simp))
      have H3 := Lib.hid (H2.out.only o3 (by simp))
      have O3 := Lib.hid (O2.out.trans o3 (by simp))
      clear o3 a0 a1 b0 b1 t0 t1
      cases v with
      | false =>
        obtain ⟨a0, a1⟩ := A3.out.pid
        obtain ⟨b0, b1⟩ := B3.out.pid
        have t0 := T3.out.cell0 (i := 0) rfl
        have t1 := T3.out.cell0 (i := 1) rfl
        go_wp2_with fail
        (with_reducible refine (KB.out _).mono ?_)
        rintro e w4 ⟨rfl, o4⟩
        have T4 := Lib.hid (T3.out.only o4 (by simp))
        have A4 := Lib.hid (A3.out.only o4 (by simp))
        have B4 := Lib.hid (B3.out.only o4 (by simp))
        have R4 := Lib.hid (R3.out.only o4 (by simp))
        have H4 := Lib.hid (H3.out.only o4 (by simp))
        have O4 := Lib.hid (O3.out.trans o4 (by simp))
        clear o4 a0 a1 b0 b1 t0 t1
        have hu : monF xs r a b = (xs, 1) := monF_no (by rw [hub]; simp)
        have z0 := R4.out.cell0 (i := 0) rfl
        have z1 := R4.out.cell0 (i := 1) rfl
        have zf := R4.out.free
        have t0 := T4.out.cell0 (i := 0) rfl
        have t1 := T4.out.cell0 (i := 1) rfl
        go_wp2_with fail
        refine bodyPost_ret (v := .tuple #[.agg (tiC true (.slice A xs.length cap)), .int .i64 1]) (by simp [results, Try.results29, go_sem, z0, z1]) rfl ⟨_, by rw [hu], by rw [hu]; exact .inl ⟨rfl, rfl⟩, (O4.out.set (.inr L1) _).set (.inr L1) _⟩
      | true =>
        obtain ⟨a0, a1⟩ := A3.out.pid
        obtain ⟨b0, b1⟩ := B3.out.pid
        have t0 := T3.out.cell0 (i := 0) rfl
        have t1 := T3.out.cell0 (i := 1) rfl
        go_wp2_with fail
        (with_reducible refine (KB.out _).mono ?_)
        rintro e w4 ⟨rfl, o4⟩
        have T4 := Lib.hid (T3.out.only o4 (by simp))
        have A4 := Lib.hid (A3.out.only o4 (by simp))
        have B4 := Lib.hid (B3.out.only o4 (by simp))
        have R4 := Lib.hid (R3.out.only o4 (by simp))
        have H4 := Lib.hid (H3.out.only o4 (by simp))
        have O4 := Lib.hid (O3.out.trans o4 (by simp))
        clear o4 a0 a1 b0 b1 t0 t1
        by_cases c1 : r < 1
        · have d1 : decide (r < 1) = true := decide_eq_true c1
          have hu : monF xs r a b = (xs, 1) := monF_no (by rw [decide_eq_false (show ¬ (1 ≤ r ∧ r ≤ 4611686018427387903) by omega)]; simp)
          have z0 := R4.out.cell0 (i := 0) rfl
          have z1 := R4.out.cell0 (i := 1) rfl
          have zf := R4.out.free
          have t0 := T4.out.cell0 (i := 0) rfl
          have t1 := T4.out.cell0 (i := 1) rfl
          go_wp2_with fail
          refine bodyPost_ret (v := .tuple #[.agg (tiC true (.slice A xs.length cap)), .int .i64 1]) (by simp [results, Try.results29, go_sem, z0, z1]) rfl ⟨_, by rw [hu], by rw [hu]; exact .inl ⟨rfl, rfl⟩, (O4.out.set (.inr L1) _).set (.inr L1) _⟩
        · have d1 : decide (r < 1) = false := decide_eq_false c1
          by_cases c2 : 4611686018427387903 < r
          · have d2 : decide (4611686018427387903 < r) = true := decide_eq_true c2
            have hu : monF xs r a b = (xs, 1) := monF_no (by rw [decide_eq_false (show ¬ (1 ≤ r ∧ r ≤ 4611686018427387903) by omega)]; simp)
            have z0 := R4.out.cell0 (i := 0) rfl
            have z1 := R4.out.cell0 (i := 1) rfl
            have zf := R4.out.free
            have t0 := T4.out.cell0 (i := 0) rfl
            have t1 := T4.out.cell0 (i := 1) rfl
            go_wp2_with fail
            refine bodyPost_ret (v := .tuple #[.agg (tiC true (.slice A xs.length cap)), .int .i64 1]) (by simp [results, Try.results29, go_sem, z0, z1]) rfl ⟨_, by rw [hu], by rw [hu]; exact .inl ⟨rfl, rfl⟩, (O4.out.set (.inr L1) _).set (.inr L1) _⟩
          · have d2 : decide (4611686018427387903 < r) = false := decide_eq_false c2
            have hu : monF xs r a b = (xs, 1) := monF_no (by rw [hf]; simp)
            have z0 := R4.out.cell0 (i := 0) rfl
            have z1 := R4.out.cell0 (i := 1) rfl
            have zf := R4.out.free
            have t0 := T4.out.cell0 (i := 0) rfl
            have t1 := T4.out.cell0 (i := 1) rfl
            go_wp2_with fail
            refine bodyPost_ret (v := .tuple #[.agg (tiC true (.slice A xs.length cap)), .int .i64 1]) (by simp [results, Try.results29, go_sem, z0, z1]) rfl ⟨_, by rw [hu], by rw [hu]; exact .inl ⟨rfl, rfl⟩, (O4.out.set (.inr L1) _).set (.inr L1) _⟩
end Go.Proofs.Ytkodblhompphjaa

namespace Go.Proofs.Ytkodblhompphjaa
open Go.RowKit
set_option maxRecDepth 20000

noncomputable def demF (l : List Te) (r : Int) : List Te × Int := match findT l r with | some x => (lessT l x, 0) | none => (l, 3)
set_option maxHeartbeats 4000000 in
theorem rdemon_any (A : Option Addr) (xs : List Te) (cap : Nat) (r : Int) (w : World) (h : RdS KT w A xs) (hl : xs.length * 40 + 4096 ≤ 140737488355328) :
    Calls Try.prog 30 #[.agg (tiC true (.slice A xs.length cap)), .int .i64 r] w fun e w' => ∃ v, e = .returned (.tuple #[.agg (tiC true v), .int .i64 (demF xs r).2]) ∧ LiesT w' w.heap.size v (.slice A xs.length cap) xs (demF xs r).1 ∧ Only [] w w' := by
  have hW : ∃ w0, w0 = (w.alloc (.cells (tiC true (.slice A xs.length cap)) 27)).alloc (.cells (tiC false (.slice none 0 0)) 27) := ⟨_, rfl⟩
  obtain ⟨w0, e0⟩ := hW
  have O := Lib.hid (show Only [] w w0 from e0 ▸ ((Only.refl [] w).alloc _).alloc _)
  have BT := Lib.hid (show Bk w0 w.heap.size 27 (tiC true (.slice A xs.length cap)) from e0 ▸ (Bk.made w _ _).alloc _)
  have BR := Lib.hid (show Bk w0 (w.heap.size + 1) 27 (tiC false (.slice none 0 0)) from e0 ▸ Bk.newAt (by simp))
  have H := Lib.hid (h.only O.out (by simp))
  have hl1 : xs.length ≤ 17592186044416 := by omega
  have L1 : w.heap.size ≤ w.heap.size + 1 := by omega
  have KF := rfind_any true A xs cap r w0 H.out hl1
  clear h
  cases hf : findT xs r with
  | none =>
    rw [hf] at KF
    simp only [findV] at KF
    have KF := Lib.hid KF
    have hu : demF xs r = (xs, 3) := by unfold demF; rw [hf]
    go_enter Try.func30, Try.ntmps30
    go_upto_region 1 with fail
    rw [← e0]
    clear e0
    have t0 := BT.out.cell0 (i := 0) rfl
    have t1 := BT.out.cell0 (i := 1) rfl
    go_wp2_with fail
    (with_reducible refine KF.out.mono ?_)
    rintro e w1 ⟨rfl, o1⟩
    have o2 := o1.alloc (.cells zT.cs 45)
    have O2 := Lib.hid (O.out.trans o2 (by simp))
    have T2 := Lib.hid (BT.out.only o2 (by simp))
    have R2 := Lib.hid (BR.out.only o2 (by simp))
    clear o1 o2 t0 t1
    have t0 := T2.out.cell0 (i := 0) rfl
    have t1 := T2.out.cell0 (i := 1) rfl
    have z0 := R2.out.cell0 (i := 0) rfl
    have z1 := R2.out.cell0 (i := 1) rfl
    have zf := R2.out.free
    go_wp2_with fail
    refine bodyPost_ret (v := .tuple #[.agg (tiC true (.slice A xs.length cap)), .int .i64 3]) (by simp [results, Try.results30, go_sem, z0, z1]) rfl ⟨_, by rw [hu], by rw [hu]; exact .inl ⟨rfl, rfl⟩, (O2.out.set (.inr L1) _).set (.inr L1) _⟩
  | some x =>
    rw [hf] at KF
    simp only [findV] at KF
    have KF := Lib.hid KF
    have hu : demF xs r = (lessT xs x, 0) := by unfold demF; rw [hf]
    have HU := Lib.hid hu
    clear hu hf
    go_enter Try.func30, Try.ntmps30
    go_upto_region 1 with fail
    rw [← e0]
    clear e0
    have t0 := BT.out.cell0 (i := 0) rfl
    have t1 := BT.out.cell0 (i := 1) rfl
    go_wp2_with fail
    (with_reducible refine KF.out.mono ?_)
    rintro e w1 ⟨rfl, o1⟩
    have o2 := o1.alloc (.cells x.cs 45)
    have O2 := Lib.hid (O.out.trans o2 (by simp))
    have T2 := Lib.hid (BT.out.only o2 (by simp))
    have R2 := Lib.hid (BR.out.only o2 (by simp))
    have X2 := Lib.hid (Bk.made w1 45 x.cs)
    have KS := Lib.hid (rless_any true A xs cap x (w1.alloc (.cells x.cs 45)) (H.out.only o2 (by simp)) hl)
    clear o1 o2 t0 t1
    have t0 := T2.out.cell0 (i := 0) rfl
    have t1 := T2.out.cell0 (i := 1) rfl
    obtain ⟨x0, x1, x2, x3, x4⟩ := X2.out.tie
    go_wp2_with fail
    (with_reducible refine KS.out.mono ?_)
    rintro e w6 ⟨v6, rfl, hv6, o6⟩
    obtain ⟨G6, c6, e6, -, -, -, -⟩ := hv6.form
    subst e6
    have r6 := R2.out.only o6 (by simp)
    have V6 := Lib.hid hv6
    have O6 := Lib.hid (O2.out.trans o6 (by simp))
    have hr3 := R2.out.lt
    have z0 := r6.cell0 (i := 0) rfl
    have z1 := r6.cell0 (i := 1) rfl
    have zf := r6.free
    clear o6 hv6 r6 t0 t1 x0 x1 x2 x3 x4
    go_wp2_with fail
    refine bodyPost_ret (v := .tuple #[.agg (tiC true (.slice G6 (lessT xs x).length c6)), .int .i64 0]) (by simp [results, Try.results30, go_sem, z0, z1]) rfl ⟨_, by rw [HU.out], ?_, (O6.out.set (.inr L1) _).set (.inr L1) _⟩
    rw [HU.out]
    have oo := (((Only.refl [w.heap.size + 1] w6).set (p := ⟨w.heap.size + 1, 0, none⟩) (.inl (by simp)) (.bool true)).set (p := ⟨w.heap.size + 1, 1, none⟩) (.inl (by simp)) (.slice G6 (lessT xs x).length c6))
    exact .inr ((V6.out.low (by omega)).only oo (fun g' hg' => by have := (V6.out.block hg').1; simp; omega))
end Go.Proofs.Ytkodblhompphjaa
