/- pattern.Parse, for every text. What a text is read as: a tree that a reader makes, with no list of more than so many. -/
import Derived.Test.YtlilfmpikampgaaGreatDoorPKd
import Derived.Test.YtlilfmpikampgaaGreatDoorPH3
import Derived.Test.YtlilfmpikampgaaGreatDoorPHb
namespace Go.Proofs.YtlilfmpikampgaaGreatDoor
open Go.RowKit

/-- What Parse answers, in the program and in the document. -/
def qPU (s : ByteArray) : QT × Int × Int :=
  if 262144 < s.size then (.zero, 4, 0) else match qrun s (.go [] 0) 0 with
  | .error n => (.zero, 50, (n : Int))
  | .ok t => if qchk t = 0 then (t, 0, 0) else (.zero, qchk t, 0)
def QTells (u : QT × Int × Int) (w' : World) (e : Ending) : Prop := ∃ (F : Nat → Prop) (sl sr : Value), (∀ b, F b → b < w'.heap.size) ∧ QV w' F u.1 sl sr ∧ e = .returned (.tuple #[.agg (u.1.cs sl sr), .int .i64 u.2.1, .int .i64 u.2.2])
theorem QTells.zero {w' : World} {e : Ending} {a b : Int} (h : e = .returned (.tuple #[.agg P11, .int .i64 a, .int .i64 b])) : QTells (.zero, a, b) w' e := ⟨fun _ => False, _, _, fun _ h => h.elim, (QV.leaf (by simp)).2 ⟨rfl, rfl⟩, h⟩
set_option maxRecDepth 100000 in
set_option maxHeartbeats 8000000 in
theorem qparse_long (s : ByteArray) (w : World) (hs : 262144 < s.size) : Calls Tryz.prog 4 #[.string s] w fun e w' => QTells (qPU s) w' e ∧ Only [] w w' := by
  have rs := store_com
  have p1 : (262144 : Int) < (s.size : Int) := by omega
  have hu : qPU s = (.zero, 4, 0) := by unfold qPU; rw [if_pos hs]
  rw [hu]
  have HT := Lib.hid (fun w' => QTells.zero (w' := w') (a := 4) (b := 0) rfl)
  clear hu hs
  go_enter_defers Tryz.func4, Tryz.ntmps4
  go_wp2_with fail
  have b0 := ((Bk.made w 30 P11).alloc (.cells #[.int .i64 4] 31)).alloc (.cells #[.int .i64 0] 3)
  have b1 := (Bk.madeAt (w := w.alloc (.cells P11 30)) (t := 31) (cs := #[.int .i64 4]) (b := w.heap.size + 1) (by simp)).alloc (.cells #[.int .i64 0] 3)
  have b2 := Bk.madeAt (w := (w.alloc (.cells P11 30)).alloc (.cells #[.int .i64 4] 31)) (t := 3) (cs := #[.int .i64 0]) (b := w.heap.size + 1 + 1) (by simp)
  have oW := (((Only.refl [] w).alloc (.cells P11 30)).alloc (.cells #[.int .i64 4] 31)).alloc (.cells #[.int .i64 0] 3)
  generalize ((w.alloc (.cells _ 30)).alloc (.cells _ 31)).alloc (.cells _ 3) = W at *
  obtain ⟨z0, z1, z2, z3, z4, z5, z6, z7, z8, z9, z10⟩ := b0.eleven
  have y0 := b1.cell0 (i := 0) rfl
  have x0 := b2.cell0 (i := 0) rfl
  simp [bodyPostD, Leaves, results, Tryz.results4, go_sem, z0, z1, z2, z3, z4, z5, z6, z7, z8, z9, z10, y0, x0]
  exact ⟨HT.out _, oW⟩
set_option maxRecDepth 100000 in
set_option maxHeartbeats 8000000 in
theorem qparse_in (s : ByteArray) (w : World) (hs : s.size ≤ 262144) (hv : Vars w) (hk : KN w) (hg : 0 < w.heap.size) : Calls Tryz.prog 4 #[.string s] w fun e w' => QTells (qPU s) w' e ∧ Only [] w w' := by
  have rs := store_com
  have hmf : ∀ (fn : Fn) (first cap : Array Value) (w : World), (Instr.makeFunc fn first cap).run Tryz.prog w = .ok (.func fn first cap) w := fun _ _ _ _ => rfl
  have p1 : ¬ (262144 : Int) < (s.size : Int) := by omega
  have h9 := hv.big
  obtain ⟨W, hW⟩ : ∃ W, W = (((w.alloc (.cells P11 30)).alloc (.cells #[.int .i64 0] 31)).alloc (.cells #[.int .i64 0] 3)).alloc (.cells #[.string s, .int .i64 0, .int .i64 0, .slice none 0 0, .int .i64 0, .int .i64 0, .int .i64 0, .int .i64 0, .complex .f64 0 0, .string ⟨#[]⟩, .int .i64 0, .int .i64 0, .slice none 0 0, .slice none 0 0, .slice none 0 0] 40) := ⟨_, rfl⟩
  have oW : Only [] w W := by rw [hW]; exact ((((Only.refl [] w).alloc _).alloc _).alloc _).alloc _
  have HR := Lib.hid (qread_any s W (w.heap.size + 1 + 1 + 1) (uOf 0 0 .zero (.slice none 0 0) (.slice none 0 0)) hs (by rw [hW]; exact Bk.madeAt (by simp)) (hv.same oW) (hk.only hg oW (by simp)) (Nat.lt_of_lt_of_le hg oW.size) (by omega) (by omega))
  go_enter_defers Tryz.func4, Tryz.ntmps4
  go_wp2_with fail
  rw [← hW]
  have B0 := Lib.hid (show Bk W w.heap.size 30 P11 from by rw [hW]; exact (((Bk.made _ _ _).alloc _).alloc _).alloc _)
  have B1 := Lib.hid (show Bk W (w.heap.size + 1) 31 #[.int .i64 0] from by rw [hW]; exact ((Bk.madeAt (by simp)).alloc _).alloc _)
  have B2 := Lib.hid (show Bk W (w.heap.size + 1 + 1) 3 #[.int .i64 0] from by rw [hW]; exact (Bk.madeAt (by simp)).alloc _)
  have OW := Lib.hid oW
  have hlo : W.heap.size = w.heap.size + 1 + 1 + 1 + 1 := by rw [hW]; simp
  clear hW oW
  (with_reducible refine (HR.out).mono ?_)
  rintro e w1 ⟨hr, o1⟩
  have C0 := Lib.hid (B0.out.only o1 (by intro h; have := List.mem_singleton.1 h; omega))
  have C1 := Lib.hid (B1.out.only o1 (by intro h; have := List.mem_singleton.1 h; omega))
  have C2 := Lib.hid (B2.out.only o1 (by intro h; have := List.mem_singleton.1 h; omega))
  have O1 := Lib.hid (OW.out.trans o1 (fun i hi => .inr (by rw [List.mem_singleton.1 hi]; omega)))
  clear o1 HR
  unfold QRead at hr
  have hpu : qPU s = (match qrun s (.go [] 0) 0 with | .error n => (.zero, 50, (n : Int)) | .ok t => if qchk t = 0 then (t, 0, 0) else (.zero, qchk t, 0)) := by unfold qPU; rw [if_neg (by omega)]
  cases hq : qrun s (.go [] 0) 0 with
  | error n =>
    rw [hq] at hr hpu
    simp only at hr hpu
    unfold GaveUp at hr
    subst hr
    go_wp2_with fail
    refine leaves_cons (f := 8) (args := #[.pointer (some ⟨w.heap.size, 0, none⟩), .pointer (some ⟨w.heap.size + 1, 0, none⟩), .pointer (some ⟨w.heap.size + 1 + 1, 0, none⟩)]) (by simp) (by simp [go_sem]) ?_
    refine (qcatch_gave w.heap.size (w.heap.size + 1) (w.heap.size + 1 + 1) n 0 0 [] _ C0.out C1.out C2.out (by omega) (by omega) (by omega)).mono ?_
    rintro e u' w2 ⟨rfl, rfl, b0, b1, b2, o2⟩
    obtain ⟨z0, z1, z2, z3, z4, z5, z6, z7, z8, z9, z10⟩ := b0.eleven
    have y0 := b1.cell0 (i := 0) rfl
    have x0 := b2.cell0 (i := 0) rfl
    have O2 := O1.out.trans o2 (fun i hi => .inr (by simp at hi; omega))
    have HT := Lib.hid (show ∀ w', QTells (qPU s) w' (.returned (.tuple #[.agg P11, .int .i64 50, .int .i64 (n : Int)])) from fun w' => by rw [hpu]; exact QTells.zero rfl)
    clear b0 b1 b2 o2
    simp [Leaves, settle, results, Tryz.results4, go_sem, z0, z1, z2, z3, z4, z5, z6, z7, z8, z9, z10, y0, x0]
    exact ⟨HT.out _, O2⟩
  | ok t =>
    rw [hq] at hr hpu
    simp only at hr hpu
    obtain ⟨hgood, F, sl, sr, hF, hT, he⟩ := hr
    obtain ⟨A, m, c, B, m2, c2, rfl, rfl⟩ := hT.slices
    have he2 : e = .returned (.agg (pcs t.k t.n t.t (.slice A m c) (.slice B m2 c2))) := he
    clear he
    subst he2
    have HC := Lib.hid (fun w hq hF hk hg => qcheck_any t hgood (.slice A m c) (.slice B m2 c2) F w hq hF hk hg)
    obtain ⟨z0, z1, z2, z3, z4, z5, z6, z7, z8, z9, z10⟩ := C0.out.eleven
    have zf := C0.out.free
    go_wp2_with fail
    obtain ⟨B7, O7⟩ := put11 (v0 := (.int .i64 t.k)) (v1 := (.int .i64 t.n)) (v2 := (.int .i64 t.t.k)) (v3 := (.int .i64 t.t.n)) (v4 := (.complex .f64 t.t.x t.t.y)) (v5 := (.string t.t.S)) (v6 := (.int .i64 t.t.a)) (v7 := (.int .i64 t.t.b)) (v8 := (.slice none 0 0)) (v9 := (.slice A m c)) (v10 := (.slice B m2 c2)) C0.out (Eq.refl _)
    clear z0 z1 z2 z3 z4 z5 z6 z7 z8 z9 z10 zf
    generalize ((((((((((w1.setCell ⟨w.heap.size, 0, none⟩ (.int .i64 t.k)).setCell ⟨w.heap.size, 1, none⟩ (.int .i64 t.n)).setCell ⟨w.heap.size, 2, none⟩ (.int .i64 t.t.k)).setCell ⟨w.heap.size, 3, none⟩ (.int .i64 t.t.n)).setCell ⟨w.heap.size, 4, none⟩ (.complex .f64 t.t.x t.t.y)).setCell ⟨w.heap.size, 5, none⟩ (.string t.t.S)).setCell ⟨w.heap.size, 6, none⟩ (.int .i64 t.t.a)).setCell ⟨w.heap.size, 7, none⟩ (.int .i64 t.t.b)).setCell ⟨w.heap.size, 8, none⟩ (.slice none 0 0)).setCell ⟨w.heap.size, 9, none⟩ (.slice A m c)).setCell ⟨w.heap.size, 10, none⟩ (.slice B m2 c2) = W8 at *
    have T8 := Lib.hid (QV.only O7 (fun b hb hf => by
      have := (hF b hf).1
      have := List.mem_singleton.1 hb
      omega) (fun _ h => h) t _ _ hT)
    have O8 := Lib.hid (O1.out.trans O7 (fun i hi => .inr (by rw [List.mem_singleton.1 hi]; omega)))
    have F8 := Lib.hid (show ∀ b, F b → W.heap.size ≤ b ∧ b < W8.heap.size from fun b hb => ⟨(hF b hb).1, Nat.lt_of_lt_of_le (hF b hb).2 O7.size⟩)
    have D0 := Lib.hid B7
    have D1 := Lib.hid (C1.out.only O7 (by intro h; have := List.mem_singleton.1 h; omega))
    have D2 := Lib.hid (C2.out.only O7 (by intro h; have := List.mem_singleton.1 h; omega))
    clear B7 O7 hF hT
    (with_reducible refine (HC.out W8 T8.out (fun b hb => (F8.out b hb).2) (hk.only hg O8.out (by simp)) (Nat.lt_of_lt_of_le hg O8.out.size)).mono ?_)
    rintro e w2 ⟨rfl, o2⟩
    have O9 := Lib.hid (O8.out.trans o2 (by simp))
    have E0 := Lib.hid (D0.out.only o2 (by simp))
    have E1 := Lib.hid (D1.out.only o2 (by simp))
    have E2 := Lib.hid (D2.out.only o2 (by simp))
    have T9 := Lib.hid (T8.out.same o2)
    have F9 := Lib.hid (show ∀ b, F b → W.heap.size ≤ b ∧ b < w2.heap.size from fun b hb => ⟨(F8.out b hb).1, Nat.lt_of_lt_of_le (F8.out b hb).2 o2.size⟩)
    have y0 := E1.out.cell0 (i := 0) rfl
    have yf := E1.out.free 0
    have x0 := E2.out.cell0 (i := 0) rfl
    have xf := E2.out.free 0
    obtain ⟨z0, z1, z2, z3, z4, z5, z6, z7, z8, z9, z10⟩ := E0.out.eleven
    have zf := E0.out.free
    clear o2 D0 D1 D2 O8 F8 T8 C0 C1 C2 HC
    have n01 : w.heap.size ≠ w.heap.size + 1 := by omega
    have n02 : w.heap.size ≠ w.heap.size + 1 + 1 := by omega
    have n12 : w.heap.size + 1 ≠ w.heap.size + 1 + 1 := by omega
    have n21 : w.heap.size + 1 + 1 ≠ w.heap.size + 1 := by omega
    obtain ⟨r, hrr⟩ : ∃ r, qchk t = r := ⟨_, rfl⟩
    rw [hrr] at hpu ⊢
    have HPU := Lib.hid hpu
    clear hpu hrr
    by_cases hz : r = 0
    · subst hz
      go_wp2_with fail
      obtain ⟨B7, O7⟩ := put11 (v0 := (.int .i64 t.k)) (v1 := (.int .i64 t.n)) (v2 := (.int .i64 t.t.k)) (v3 := (.int .i64 t.t.n)) (v4 := (.complex .f64 t.t.x t.t.y)) (v5 := (.string t.t.S)) (v6 := (.int .i64 t.t.a)) (v7 := (.int .i64 t.t.b)) (v8 := (.slice none 0 0)) (v9 := (.slice A m c)) (v10 := (.slice B m2 c2)) (E0.out.away (p := ⟨w.heap.size + 1, 0, none⟩) n01 (.int .i64 0)) (Eq.refl _)
      generalize (((((((((((w2.setCell ⟨w.heap.size + 1, 0, none⟩ (.int .i64 0)).setCell ⟨w.heap.size, 0, none⟩ (.int .i64 t.k)).setCell ⟨w.heap.size, 1, none⟩ (.int .i64 t.n)).setCell ⟨w.heap.size, 2, none⟩ (.int .i64 t.t.k)).setCell ⟨w.heap.size, 3, none⟩ (.int .i64 t.t.n)).setCell ⟨w.heap.size, 4, none⟩ (.complex .f64 t.t.x t.t.y)).setCell ⟨w.heap.size, 5, none⟩ (.string t.t.S)).setCell ⟨w.heap.size, 6, none⟩ (.int .i64 t.t.a)).setCell ⟨w.heap.size, 7, none⟩ (.int .i64 t.t.b)).setCell ⟨w.heap.size, 8, none⟩ (.slice none 0 0)).setCell ⟨w.heap.size, 9, none⟩ (.slice A m c)).setCell ⟨w.heap.size, 10, none⟩ (.slice B m2 c2) = W5 at *
      have b0 := (B7.away (p := ⟨w.heap.size + 1, 0, none⟩) n01 (.int .i64 0)).away (p := ⟨w.heap.size + 1 + 1, 0, none⟩) n02 (.int .i64 0)
      have b1 := (((E1.out.set 0 (.int .i64 0)).only O7 (by intro h; have := List.mem_singleton.1 h; omega)).set 0 (.int .i64 0)).away (p := ⟨w.heap.size + 1 + 1, 0, none⟩) n12 (.int .i64 0)
      have b2 := (((E2.out.away (p := ⟨w.heap.size + 1, 0, none⟩) n21 (.int .i64 0)).only O7 (by intro h; have := List.mem_singleton.1 h; omega)).away (p := ⟨w.heap.size + 1, 0, none⟩) n21 (.int .i64 0)).set 0 (.int .i64 0)
      have oo : Only [w.heap.size, w.heap.size + 1, w.heap.size + 1 + 1] w2 ((W5.setCell ⟨w.heap.size + 1, 0, none⟩ (.int .i64 0)).setCell ⟨w.heap.size + 1 + 1, 0, none⟩ (.int .i64 0)) := (((((Only.refl _ w2).set (.inl (by simp)) (.int .i64 0)).trans (O7.more (T := [w.heap.size, w.heap.size + 1, w.heap.size + 1 + 1]) (by simp)) (fun i hi => .inl hi)).set (.inl (by simp)) _).set (.inl (by simp)) _)
      generalize (W5.setCell ⟨w.heap.size + 1, 0, none⟩ (.int .i64 0)).setCell ⟨w.heap.size + 1 + 1, 0, none⟩ (.int .i64 0) = W6 at *
      have OF := O9.out.trans oo (fun i hi => .inr (by simp at hi; omega))
      have T6 := Lib.hid (QV.only oo (fun b hb hf => by
        have := (F9.out b hf).1
        simp at hb
        omega) (fun _ h => h) t _ _ T9.out)
      have F6 := Lib.hid (show ∀ b, F b → b < W6.heap.size from fun b hb => Nat.lt_of_lt_of_le (F9.out b hb).2 oo.size)
      have OF := Lib.hid OF
      clear B7 O7 oo
      refine leaves_cons (f := 8) (args := #[.pointer (some ⟨w.heap.size, 0, none⟩), .pointer (some ⟨w.heap.size + 1, 0, none⟩), .pointer (some ⟨w.heap.size + 1 + 1, 0, none⟩)]) (by simp) (by simp [go_sem]) ?_
      refine (qcatch_idle ⟨w.heap.size, 0, none⟩ ⟨w.heap.size + 1, 0, none⟩ ⟨w.heap.size + 1 + 1, 0, none⟩ _).mono ?_
      rintro e u' w7 ⟨rfl, rfl, rfl⟩
      clear y0 yf x0 xf z0 z1 z2 z3 z4 z5 z6 z7 z8 z9 z10 zf E0 E1 E2
      obtain ⟨z0, z1, z2, z3, z4, z5, z6, z7, z8, z9, z10⟩ := b0.eleven
      have y0 := b1.cell0 (i := 0) rfl
      have x0 := b2.cell0 (i := 0) rfl
      clear b0 b1 b2
      simp [Leaves, settle, results, Tryz.results4, go_sem, z0, z1, z2, z3, z4, z5, z6, z7, z8, z9, z10, y0, x0]
      refine ⟨?_, OF.out⟩
      rw [HPU.out, if_pos trivial]
      exact ⟨F, _, _, F6.out, T6.out, rfl⟩
    · have hne : (r != 0) = true := by simpa using hz
      have HZ := Lib.hid hz
      clear hz
      go_wp2_with fail
      go_region
      all_goals
        go_wp2_with fail
        obtain ⟨B7, O7⟩ := put11 (v0 := (.int .i64 0)) (v1 := (.int .i64 0)) (v2 := (.int .i64 0)) (v3 := (.int .i64 0)) (v4 := (.complex .f64 0 0)) (v5 := (.string ⟨#[]⟩)) (v6 := (.int .i64 0)) (v7 := (.int .i64 0)) (v8 := (.slice none 0 0)) (v9 := (.slice none 0 0)) (v10 := (.slice none 0 0)) (E0.out.away (p := ⟨w.heap.size + 1, 0, none⟩) n01 (.int .i64 r)) (Eq.refl _)
        generalize (((((((((((w2.setCell ⟨w.heap.size + 1, 0, none⟩ (.int .i64 r)).setCell ⟨w.heap.size, 0, none⟩ (.int .i64 0)).setCell ⟨w.heap.size, 1, none⟩ (.int .i64 0)).setCell ⟨w.heap.size, 2, none⟩ (.int .i64 0)).setCell ⟨w.heap.size, 3, none⟩ (.int .i64 0)).setCell ⟨w.heap.size, 4, none⟩ (.complex .f64 0 0)).setCell ⟨w.heap.size, 5, none⟩ (.string ⟨#[]⟩)).setCell ⟨w.heap.size, 6, none⟩ (.int .i64 0)).setCell ⟨w.heap.size, 7, none⟩ (.int .i64 0)).setCell ⟨w.heap.size, 8, none⟩ (.slice none 0 0)).setCell ⟨w.heap.size, 9, none⟩ (.slice none 0 0)).setCell ⟨w.heap.size, 10, none⟩ (.slice none 0 0) = W5 at *
        have b0 := (B7.away (p := ⟨w.heap.size + 1, 0, none⟩) n01 (.int .i64 r)).away (p := ⟨w.heap.size + 1 + 1, 0, none⟩) n02 (.int .i64 0)
        have b1 := (((E1.out.set 0 (.int .i64 r)).only O7 (by intro h; have := List.mem_singleton.1 h; omega)).set 0 (.int .i64 r)).away (p := ⟨w.heap.size + 1 + 1, 0, none⟩) n12 (.int .i64 0)
        have b2 := (((E2.out.away (p := ⟨w.heap.size + 1, 0, none⟩) n21 (.int .i64 r)).only O7 (by intro h; have := List.mem_singleton.1 h; omega)).away (p := ⟨w.heap.size + 1, 0, none⟩) n21 (.int .i64 r)).set 0 (.int .i64 0)
        have oo : Only [w.heap.size, w.heap.size + 1, w.heap.size + 1 + 1] w2 ((W5.setCell ⟨w.heap.size + 1, 0, none⟩ (.int .i64 r)).setCell ⟨w.heap.size + 1 + 1, 0, none⟩ (.int .i64 0)) := (((((Only.refl _ w2).set (.inl (by simp)) (.int .i64 r)).trans (O7.more (T := [w.heap.size, w.heap.size + 1, w.heap.size + 1 + 1]) (by simp)) (fun i hi => .inl hi)).set (.inl (by simp)) _).set (.inl (by simp)) _)
        generalize (W5.setCell ⟨w.heap.size + 1, 0, none⟩ (.int .i64 r)).setCell ⟨w.heap.size + 1 + 1, 0, none⟩ (.int .i64 0) = W6 at *
        have OF := O9.out.trans oo (fun i hi => .inr (by simp at hi; omega))
        have OF := Lib.hid OF
        clear B7 O7 oo
        refine leaves_cons (f := 8) (args := #[.pointer (some ⟨w.heap.size, 0, none⟩), .pointer (some ⟨w.heap.size + 1, 0, none⟩), .pointer (some ⟨w.heap.size + 1 + 1, 0, none⟩)]) (by simp) (by simp [go_sem]) ?_
        refine (qcatch_idle ⟨w.heap.size, 0, none⟩ ⟨w.heap.size + 1, 0, none⟩ ⟨w.heap.size + 1 + 1, 0, none⟩ _).mono ?_
        rintro e u' w7 ⟨rfl, rfl, rfl⟩
        clear y0 yf x0 xf z0 z1 z2 z3 z4 z5 z6 z7 z8 z9 z10 zf E0 E1 E2
        obtain ⟨z0, z1, z2, z3, z4, z5, z6, z7, z8, z9, z10⟩ := b0.eleven
        have y0 := b1.cell0 (i := 0) rfl
        have x0 := b2.cell0 (i := 0) rfl
        clear b0 b1 b2
        simp [Leaves, settle, results, Tryz.results4, go_sem, z0, z1, z2, z3, z4, z5, z6, z7, z8, z9, z10, y0, x0]
        refine ⟨?_, OF.out.drew⟩
        rw [HPU.out, if_neg HZ.out]
        exact QTells.zero rfl
end Go.Proofs.YtlilfmpikampgaaGreatDoor

namespace Go.Proofs.YtlilfmpikampgaaGreatDoor
open Go.RowKit

def QSzI : QS → Prop
  | .go stk _ => ∀ o ∈ stk, QSzs o.items ∧ QSzs o.rest
  | .whole t => t.Sz
theorem QSzs.snoc {l : List QT} {t : QT} (h : QSzs l) (ht : t.Sz) : QSzs (l ++ [t]) := by
  rw [QSzs.iff] at h ⊢
  intro u hu
  rcases List.mem_append.1 hu with hu | hu
  · exact h u hu
  · rw [List.mem_singleton.1 hu]; exact ht
theorem QSzI.put {stk : List QOpn} {t : QT} (h : ∀ o ∈ stk, QSzs o.items ∧ QSzs o.rest) (ht : t.Sz) : QSzI (qput stk t) := by
  cases stk with
  | nil => exact ht
  | cons o r =>
    have h0 := h o (by simp)
    have hr : ∀ p ∈ r, QSzs p.items ∧ QSzs p.rest := fun p hp => h p (by simp [hp])
    unfold qput
    simp only
    split
    · intro p hp
      rcases List.mem_cons.1 hp with rfl | hp
      · exact ⟨h0.1, ht, trivial⟩
      · exact hr p hp
    · intro p hp
      rcases List.mem_cons.1 hp with rfl | hp
      · exact ⟨h0.1.snoc ht, h0.2⟩
      · exact hr p hp
theorem QSzI.step {s : ByteArray} {j n : Nat} {σ σ' : QS} (hn : n ≤ 262144) (h : QSzI σ) (hi : QInv n σ) (hm : qstep σ (qkAt s j) = some σ') : QSzI σ' := by
  cases σ with
  | whole t => rw [q_whole_step] at hm; cases hm
  | go stk md =>
    obtain ⟨_, h2, _⟩ := hi
    have h' : ∀ o ∈ stk, QSzs o.items ∧ QSzs o.rest := h
    cases ht : qkAt s j with
    | bad => rw [ht] at hm; simp [qstep] at hm
    | leaf t =>
      rw [ht] at hm
      simp only [qstep] at hm
      split at hm
      · injection hm with hm
        subst hm
        refine QSzI.put h' ?_
        have hl := qk_leaf ht
        cases t with
        | seq k l r => exact absurd rfl (hl _ _ _)
        | _ => trivial
      · cases hm
    | sign b =>
      rw [ht] at hm
      simp only [qstep] at hm
      split at hm
      · split at hm
        · injection hm with hm
          subst hm
          intro o ho
          rcases List.mem_cons.1 ho with rfl | ho
          · exact ⟨trivial, trivial⟩
          · exact h' o ho
        · cases hm
      · split at hm
        · split at hm
          · injection hm with hm
            subst hm
            exact h'
          · cases hm
        · cases stk with
          | nil => simp at hm
          | cons o r =>
            simp only at hm
            have ho := h' o (by simp)
            have ho2 := h2 o (by simp)
            split at hm
            · split at hm
              · injection hm with hm
                subst hm
                intro p hp
                rcases List.mem_cons.1 hp with rfl | hp
                · exact ho
                · exact h' p (by simp [hp])
              · cases hm
            · split at hm
              · injection hm with hm
                subst hm
                refine QSzI.put (fun p hp => h' p (by simp [hp])) ⟨by omega, ?_, ho.1, ho.2⟩
                rcases ho2.2.2 with h3 | h3
                · rw [h3.2.2]; simp
                · exact h3.2.1
              · cases hm
theorem qrun_sz (s : ByteArray) (hs : s.size ≤ 262144) : ∀ (d i : Nat) (σ : QS) (n : Nat), s.size - i ≤ d → n ≤ i → i ≤ s.size → QInv n σ → QSzI σ → ∀ t, qrun s σ i = .ok t → t.Good ∧ t.Sz := by
  intro d
  induction d with
  | zero =>
    intro i σ n hd hn hi hq hz t ht
    have hj : ¬ nxt s i < s.size := by have := nxt_ge s i; omega
    cases σ with
    | whole u => rw [qrun_whole hj] at ht; injection ht with ht; subst ht; exact ⟨hq, hz⟩
    | go stk md => rw [qrun_end hj] at ht; cases ht
  | succ d ih =>
    intro i σ n hd hn hi hq hz t ht
    by_cases hj : nxt s i < s.size
    · cases hm : qstep σ (qkAt s (nxt s i)) with
      | none => rw [qrun_no hj hm] at ht; cases ht
      | some σ' =>
        rw [qrun_yes hj hm] at ht
        have hb := qfin_bd hj
        have hg := nxt_ge s i
        exact ih (qfin s (nxt s i)) σ' (n + 1) (by omega) (by omega) hb.2 (hq.step hs hm) (hz.step (by omega) hq hm) t ht
    · cases σ with
      | whole u => rw [qrun_whole hj] at ht; injection ht with ht; subst ht; exact ⟨hq, hz⟩
      | go stk md => rw [qrun_end hj] at ht; cases ht
/-- Of what is read of a text. -/
theorem qread_sz {s : ByteArray} (hs : s.size ≤ 262144) {t : QT} (h : qrun s (.go [] 0) 0 = .ok t) : t.Good ∧ t.Sz := qrun_sz s hs s.size 0 _ 0 (by omega) (Nat.le_refl _) (Nat.zero_le _) QInv.init (fun o ho => by simp at ho) t h
end Go.Proofs.YtlilfmpikampgaaGreatDoor
