/- The document's Term, Parse and Head, for every text. -/
import Derived.Test.YtlpafnibcmcjgaaGreatDoorDe
import Derived.Test.YtlpafnibcmcjgaaGreatDoorDf
import Derived.Test.YtlpafnibcmcjgaaGreatDoorZ5
namespace Go.Proofs.YtlpafnibcmcjgaaGreatDoor
open Go.RowKit

theorem term_any (s : ByteArray) (hs : s.size ≤ 262144) : ∀ (n i : Nat) (w : World), s.size - i ≤ n → i ≤ s.size → Calls Tryz.prog 19 #[.string s, .int .i64 i] w fun e w' => TermE s i w w' e ∧ Only [] w w' := by
  intro n
  induction n with
  | zero =>
    intro i w hn hi
    have hj : ¬ nxt s i < s.size := by have := nxt_ge s i; omega
    exact term_x s i w hs hi (fun b h => absurd h hj) (fun t h => absurd h hj)
  | succ n ih =>
    intro i w hn hi
    by_cases hj : nxt s i < s.size
    · cases ht : tkAt s (nxt s i) with
      | term t => exact term_t s i t w hs hi hj ht
      | bad => exact term_x s i w hs hi (fun b _ h => by rw [ht] at h; cases h) (fun t _ h => by rw [ht] at h; cases h)
      | sign b =>
        by_cases h1 : b.toNat = 123
        · exact term_open123 s i w hs hi b hj ht h1 (fun p w h h2 => ih p w (by omega) h2)
        · by_cases h2 : b.toNat = 91
          · exact term_open91 s i w hs hi b hj ht h2 (fun p w h h2 => ih p w (by omega) h2)
          · exact term_x s i w hs hi (fun c _ h => by rw [ht] at h; injection h with h; subst h; exact ⟨h1, h2⟩) (fun t _ h => by rw [ht] at h; cases h)
    · exact term_x s i w hs hi (fun b h => absurd h hj) (fun t h => absurd h hj)
theorem term_0 (s : ByteArray) (hs : s.size ≤ 262144) (w : World) : Calls Tryz.prog 19 #[.string s, .int .i64 0] w fun e w' => TermE s 0 w w' e ∧ Only [] w w' :=
  term_any s hs s.size 0 w (by omega) (by omega)
theorem at_e (s : ByteArray) (i z : Nat) (w : World) (hs : s.size ≤ 262144) (hi : i ≤ s.size) (hn : nxt s i = z) (hz : z < s.size) :
    Calls Tryz.prog 20 #[.string s, .int .i64 i] w fun v w' => (∃ (kd sg k n : Int) (X Y : Nat) (S : ByteArray) (a b e : Int), v = .returned (.agg (tks kd sg k n X Y S a b (.slice none 0 0) z e)) ∧ kd ≠ 0) ∧ Only [] w w' := by
  subst hn
  refine (at_any s i w hs hi).mono fun v w' ⟨h1, h2⟩ => ⟨?_, h2⟩
  unfold AtE at h1
  rw [if_pos hz] at h1
  unfold TokE at h1
  split at h1
  · exact ⟨_, _, _, _, _, _, _, _, _, _, h1, by decide⟩
  · exact ⟨_, _, _, _, _, _, _, _, _, _, h1, by decide⟩
  · obtain ⟨e', rfl⟩ := h1
    exact ⟨_, _, _, _, _, _, _, _, _, _, rfl, by decide⟩
theorem at_z (s : ByteArray) (i : Nat) (w : World) (hs : s.size ≤ 262144) (hi : i ≤ s.size) (hz : ¬ nxt s i < s.size) :
    Calls Tryz.prog 20 #[.string s, .int .i64 i] w fun v w' => v = .returned (.agg (tks 0 0 0 0 0 0 ⟨#[]⟩ 0 0 (.slice none 0 0) s.size s.size)) ∧ Only [] w w' := by
  refine (at_any s i w hs hi).mono fun v w' ⟨h1, h2⟩ => ⟨?_, h2⟩
  unfold AtE at h1
  rw [if_neg hz] at h1
  exact h1
theorem p_bad {s : ByteArray} {bad : Nat} (h : run s (.go [] 0) 0 = .error bad) : pspec s (.go [] 0) 0 = .error bad := by unfold pspec; rw [h]
theorem p_more {s : ByteArray} {t : T} {n : Nat} (h : run s (.go [] 0) 0 = .ok (t, n)) (hz : nxt s n < s.size) : pspec s (.go [] 0) 0 = .error (nxt s n) := by unfold pspec; rw [h]; simp only [hz, if_true]
theorem p_ok {s : ByteArray} {t : T} {n : Nat} (h : run s (.go [] 0) 0 = .ok (t, n)) (hz : ¬ nxt s n < s.size) : pspec s (.go [] 0) 0 = .ok t := by unfold pspec; rw [h]; simp only [hz, if_false]
set_option maxHeartbeats 2000000 in
theorem ref_parse_long (s : ByteArray) (w : World) (hs : 262144 < s.size) : Calls Tryz.prog 7 #[.string s] w fun e w' => e = .returned (.tuple #[.agg Z7, .int .i64 4, .int .i64 0]) ∧ Only [] w w' := by
  have e1 : decide ((262144 : Int) < (s.size : Int)) = true := by simp; omega
  have rs := store_com
  go_enter Tryz.func7, Tryz.ntmps7
  go_wp2_with fail
  exact bodyPost_ret (v := .tuple #[.agg Z7, .int .i64 4, .int .i64 0]) (by simp [results, Tryz.results7, go_sem]) rfl ⟨rfl, ((Only.refl [] w).alloc _).alloc _⟩
set_option maxRecDepth 100000 in
set_option maxHeartbeats 8000000 in
theorem ref_parse_any (s : ByteArray) (w : World) (hs : s.size ≤ 262144) : Calls Tryz.prog 7 #[.string s] w fun e w' => ParseTells s w' e ∧ Only [] w w' := by
  have e1 : decide ((262144 : Int) < (s.size : Int)) = false := by simp; omega
  have rs := store_com
  have T := Lib.hid (fun w => term_0 s hs w)
  have B0 := Lib.hid ((Bk.made w 27 Z7).alloc (.cells Z7 27))
  have C0 := Lib.hid (Bk.madeAt (w := w.alloc (.cells Z7 27)) (t := 27) (cs := Z7) (b := w.heap.size + 1) (by simp))
  have O0 := Lib.hid (((Only.refl [] w).alloc (.cells Z7 27)).alloc (.cells Z7 27))
  go_enter Tryz.func7, Tryz.ntmps7
  go_wp2_with fail
  (with_reducible refine (T.out _).mono ?_)
  rintro e1 w1 ⟨hte, o1⟩
  have B1 := Lib.hid (B0.out.only o1 (by simp))
  have C1 := Lib.hid (C0.out.only o1 (by simp))
  have O1 := Lib.hid (O0.out.trans o1 (by simp))
  have L1 := B1.out.lt
  have L2 := C1.out.lt
  have S1 := o1.size
  clear o1
  rcases hte with ⟨t, n, sl, F, htg, rfl, hin, hns, hF, htv, hrt⟩ | ⟨bad, rfl, hrt⟩
  · obtain ⟨A, m, c, rfl⟩ := htv.slice
    have HTG := Lib.hid htg
    have HF := Lib.hid (show ∀ b, F b → w.heap.size + 2 ≤ b ∧ b < w1.heap.size from fun b hb => ⟨by have := (hF b hb).1; simpa using this, (hF b hb).2⟩)
    have HTV := Lib.hid htv
    have HR := Lib.hid (show run s (.go [] 0) 0 = .ok (t, n) by rw [hrt]; exact run_whole s t n)
    clear htg hF htv hrt
    have D1 := Lib.hid (Bk.made w1 27 (tcs t.k t.n t.x t.y t.S t.a t.b (.slice A m c)))
    have hne1 : w.heap.size ≠ w1.heap.size := by omega
    have hne2 : w.heap.size + 1 ≠ w1.heap.size := by omega
    by_cases hz : nxt s n < s.size
    · obtain ⟨z, hzn⟩ : ∃ z, nxt s n = z := ⟨_, rfl⟩
      have HP := Lib.hid (p_more HR.out hz)
      have K := Lib.hid (fun w => at_e s n z w hs hns hzn (by rw [← hzn]; exact hz))
      rw [hzn] at HP
      clear hz hzn
      go_wp2_with fail
      (with_reducible refine (K.out _).mono ?_)
      rintro e1 w2 ⟨⟨kd, sg, k, n', X, Y, S, a, b, e, rfl, hk⟩, o2⟩
      have g1 : (kd != 0) = true := bne_iff_ne.2 hk
      have B2 := Lib.hid ((B1.out.alloc (.cells (tcs t.k t.n t.x t.y t.S t.a t.b (.slice A m c)) 27)).only o2 (by simp))
      have C2 := Lib.hid ((C1.out.alloc (.cells (tcs t.k t.n t.x t.y t.S t.a t.b (.slice A m c)) 27)).only o2 (by simp))
      have O2 := Lib.hid ((O1.out.alloc (.cells (tcs t.k t.n t.x t.y t.S t.a t.b (.slice A m c)) 27)).trans o2 (by simp))
      have L3 := B2.out.lt
      have L4 := C2.out.lt
      clear o2 hk
      obtain ⟨z0, z1, z2, z3, z4, z5, z6⟩ := B2.out.seven
      have zf := B2.out.free
      obtain ⟨x0, x1, x2, x3, x4, x5, x6⟩ := C2.out.seven
      have D2 := Lib.hid (Bk.made w2 52 (tks kd sg k n' X Y S a b (.slice none 0 0) z e))
      obtain ⟨y0, y1, y2, y3, y4, y5, y6, y7, y8, y9, y10⟩ := D2.out.eleven
      go_wp2_with fail
      go_region
      go_wp2_with fail
      obtain ⟨B7, O7⟩ := put7 (v0 := (.int .i64 0)) (v1 := (.int .i64 0)) (v2 := (.complex .f64 0 0)) (v3 := (.string ⟨#[]⟩)) (v4 := (.int .i64 0)) (v5 := (.int .i64 0)) (v6 := (.slice none 0 0)) B2.out (Eq.refl _)
      clear z0 z1 z2 z3 z4 z5 z6 zf x0 x1 x2 x3 x4 x5 x6 y0 y1 y2 y3 y4 y5 y6 y7 y8 y9 y10
      generalize ((((((w2.setCell ⟨w.heap.size, 0, none⟩ (.int .i64 0)).setCell ⟨w.heap.size, 1, none⟩ (.int .i64 0)).setCell ⟨w.heap.size, 2, none⟩ (.complex .f64 0 0)).setCell ⟨w.heap.size, 3, none⟩ (.string ⟨#[]⟩)).setCell ⟨w.heap.size, 4, none⟩ (.int .i64 0)).setCell ⟨w.heap.size, 5, none⟩ (.int .i64 0)).setCell ⟨w.heap.size, 6, none⟩ (.slice none 0 0) = W8 at *
      have O8 := O2.out.trans O7 (fun b hb => .inr (by rw [List.mem_singleton.1 hb]; omega))
      have B9 := B7.alloc (.cells (tks kd sg k n' X Y S a b (.slice none 0 0) z e) 52)
      have O9 := O8.alloc (.cells (tks kd sg k n' X Y S a b (.slice none 0 0) z e) 52)
      generalize W8.alloc (.cells (tks kd sg k n' X Y S a b (.slice none 0 0) z e) 52) = W9 at *
      have B10 := B9.drew
      have O10 := O9.drew
      generalize W9.drew = W10 at *
      obtain ⟨z0, z1, z2, z3, z4, z5, z6⟩ := B10.seven
      exact bodyPost_ret (v := .tuple #[.agg Z7, .int .i64 40, .int .i64 z]) (by simp [results, Tryz.results7, go_sem, z0, z1, z2, z3, z4, z5, z6]) rfl ⟨by unfold ParseTells; rw [HP.out], O10⟩
    · have HP := Lib.hid (p_ok HR.out hz)
      have K := Lib.hid (fun w => at_z s n w hs hns hz)
      clear hz
      go_wp2_with fail
      (with_reducible refine (K.out _).mono ?_)
      rintro e1 w2 ⟨rfl, o2⟩
      have B2 := Lib.hid ((B1.out.alloc (.cells (tcs t.k t.n t.x t.y t.S t.a t.b (.slice A m c)) 27)).only o2 (by simp))
      have C2 := Lib.hid ((C1.out.alloc (.cells (tcs t.k t.n t.x t.y t.S t.a t.b (.slice A m c)) 27)).only o2 (by simp))
      have D2 := Lib.hid (D1.out.only o2 (by simp))
      have V2 := Lib.hid (HTV.out.same (((Only.refl [] w1).alloc (.cells (tcs t.k t.n t.x t.y t.S t.a t.b (.slice A m c)) 27)).trans o2 (by simp)))
      have O2 := Lib.hid ((O1.out.alloc (.cells (tcs t.k t.n t.x t.y t.S t.a t.b (.slice A m c)) 27)).trans o2 (by simp))
      have S2 := o2.size
      have S3 : w1.heap.size + 1 ≤ w2.heap.size := by simpa using S2
      clear o2 S2
      obtain ⟨x0, x1, x2, x3, x4, x5, x6⟩ := sevenA D2.out
      have L5 := D2.out.lt
      have B3 := Lib.hid (B2.out.alloc (.cells (tks 0 0 0 0 0 0 ⟨#[]⟩ 0 0 (.slice none 0 0) s.size s.size) 52))
      have C3 := Lib.hid (C2.out.alloc (.cells (tks 0 0 0 0 0 0 ⟨#[]⟩ 0 0 (.slice none 0 0) s.size s.size) 52))
      have D3 := Lib.hid (D2.out.alloc (.cells (tks 0 0 0 0 0 0 ⟨#[]⟩ 0 0 (.slice none 0 0) s.size s.size) 52))
      have V3 := Lib.hid (V2.out.same ((Only.refl [] w2).alloc (.cells (tks 0 0 0 0 0 0 ⟨#[]⟩ 0 0 (.slice none 0 0) s.size s.size) 52)))
      have O3 := Lib.hid (O2.out.alloc (.cells (tks 0 0 0 0 0 0 ⟨#[]⟩ 0 0 (.slice none 0 0) s.size s.size) 52))
      have S4 : w1.heap.size + 1 ≤ (w2.alloc (.cells (tks 0 0 0 0 0 0 ⟨#[]⟩ 0 0 (.slice none 0 0) s.size s.size) 52)).heap.size := by simp; omega
      have CK := Lib.hid (show ∀ w, TV w F t (.slice A m c) → Calls Tryz.prog 21 #[.agg #[.int .i64 t.k, .int .i64 t.n, .complex .f64 t.x t.y, .string t.S, .int .i64 t.a, .int .i64 t.b, .slice A m c]] w fun e w' => e = .returned (.int .i64 (chk t)) ∧ Only [] w w' from fun w h => rcheck_any t HTG.out _ F w h)
      go_wp2_with fail
      (with_reducible refine (CK.out _ V3.out).mono ?_)
      rintro e1 w3 ⟨rfl, o3⟩
      have B4 := Lib.hid (B3.out.only o3 (by simp))
      have C4 := Lib.hid (C3.out.only o3 (by simp))
      have D4 := Lib.hid (D3.out.only o3 (by simp))
      have V4 := Lib.hid (V3.out.same o3)
      have O4 := Lib.hid (O3.out.trans o3 (by simp))
      have S5 := o3.size
      clear o3
      obtain ⟨z0, z1, z2, z3, z4, z5, z6⟩ := B4.out.seven
      have zf := B4.out.free
      by_cases h0 : chk t = 0
      · have g0 : (chk t != 0) = false := by rw [h0]; rfl
        obtain ⟨q0, q1, q2, q3, q4, q5, q6⟩ := D4.out.seven
        go_wp2_with fail
        obtain ⟨B7, O7⟩ := put7 (v0 := (.int .i64 t.k)) (v1 := (.int .i64 t.n)) (v2 := (.complex .f64 t.x t.y)) (v3 := (.string t.S)) (v4 := (.int .i64 t.a)) (v5 := (.int .i64 t.b)) (v6 := (.slice A m c)) B4.out (Eq.refl _)
        generalize ((((((w3.setCell ⟨w.heap.size, 0, none⟩ (.int .i64 t.k)).setCell ⟨w.heap.size, 1, none⟩ (.int .i64 t.n)).setCell ⟨w.heap.size, 2, none⟩ (.complex .f64 t.x t.y)).setCell ⟨w.heap.size, 3, none⟩ (.string t.S)).setCell ⟨w.heap.size, 4, none⟩ (.int .i64 t.a)).setCell ⟨w.heap.size, 5, none⟩ (.int .i64 t.b)).setCell ⟨w.heap.size, 6, none⟩ (.slice A m c) = W8 at *
        have O8 := O4.out.trans O7 (fun b hb => .inr (by rw [List.mem_singleton.1 hb]; omega))
        obtain ⟨z0, z1, z2, z3, z4, z5, z6⟩ := B7.seven
        exact bodyPost_ret (v := .tuple #[.agg (tcs t.k t.n t.x t.y t.S t.a t.b (.slice A m c)), .int .i64 0, .int .i64 0]) (by simp [results, Tryz.results7, go_sem, z0, z1, z2, z3, z4, z5, z6]) rfl ⟨by unfold ParseTells; rw [HP.out]; exact ⟨_, ⟨.slice A m c, F, fun b hb => by have := (HF.out b hb).2; have := O7.size; omega, TV.only O7 (fun b hb hf => by have := (HF.out b hf).1; rw [List.mem_singleton.1 hb] at this; omega) (fun _ h => h) _ _ V4.out, rfl⟩, by rw [if_pos h0, h0]⟩, O8⟩
      · have g0 : (chk t != 0) = true := bne_iff_ne.2 h0
        obtain ⟨q0, q1, q2, q3, q4, q5, q6⟩ := C4.out.seven
        go_wp2_with fail
        obtain ⟨B7, O7⟩ := put7 (v0 := (.int .i64 0)) (v1 := (.int .i64 0)) (v2 := (.complex .f64 0 0)) (v3 := (.string ⟨#[]⟩)) (v4 := (.int .i64 0)) (v5 := (.int .i64 0)) (v6 := (.slice none 0 0)) B4.out (Eq.refl _)
        generalize ((((((w3.setCell ⟨w.heap.size, 0, none⟩ (.int .i64 0)).setCell ⟨w.heap.size, 1, none⟩ (.int .i64 0)).setCell ⟨w.heap.size, 2, none⟩ (.complex .f64 0 0)).setCell ⟨w.heap.size, 3, none⟩ (.string ⟨#[]⟩)).setCell ⟨w.heap.size, 4, none⟩ (.int .i64 0)).setCell ⟨w.heap.size, 5, none⟩ (.int .i64 0)).setCell ⟨w.heap.size, 6, none⟩ (.slice none 0 0) = W8 at *
        have O8 := O4.out.trans O7 (fun b hb => .inr (by rw [List.mem_singleton.1 hb]; omega))
        obtain ⟨z0, z1, z2, z3, z4, z5, z6⟩ := B7.seven
        exact bodyPost_ret (v := .tuple #[.agg Z7, .int .i64 (chk t), .int .i64 0]) (by simp [results, Tryz.results7, go_sem, z0, z1, z2, z3, z4, z5, z6]) rfl ⟨by unfold ParseTells; rw [HP.out]; exact ⟨_, ⟨.slice A m c, F, fun b hb => by have := (HF.out b hb).2; have := O7.size; omega, TV.only O7 (fun b hb hf => by have := (HF.out b hf).1; rw [List.mem_singleton.1 hb] at this; omega) (fun _ h => h) _ _ V4.out, rfl⟩, by rw [if_neg h0]⟩, O8⟩
  · have HP := Lib.hid (p_bad (hrt []))
    have L2' := C1.out.lt
    clear hrt
    obtain ⟨z0, z1, z2, z3, z4, z5, z6⟩ := B1.out.seven
    have zf := B1.out.free
    obtain ⟨x0, x1, x2, x3, x4, x5, x6⟩ := C1.out.seven
    go_wp2_with fail
    obtain ⟨B7, O7⟩ := put7 (v0 := (.int .i64 0)) (v1 := (.int .i64 0)) (v2 := (.complex .f64 0 0)) (v3 := (.string ⟨#[]⟩)) (v4 := (.int .i64 0)) (v5 := (.int .i64 0)) (v6 := (.slice none 0 0)) B1.out (Eq.refl _)
    clear z0 z1 z2 z3 z4 z5 z6 zf x0 x1 x2 x3 x4 x5 x6
    generalize ((((((w1.setCell ⟨w.heap.size, 0, none⟩ (.int .i64 0)).setCell ⟨w.heap.size, 1, none⟩ (.int .i64 0)).setCell ⟨w.heap.size, 2, none⟩ (.complex .f64 0 0)).setCell ⟨w.heap.size, 3, none⟩ (.string ⟨#[]⟩)).setCell ⟨w.heap.size, 4, none⟩ (.int .i64 0)).setCell ⟨w.heap.size, 5, none⟩ (.int .i64 0)).setCell ⟨w.heap.size, 6, none⟩ (.slice none 0 0) = W8 at *
    have O8 := O1.out.trans O7 (fun b hb => .inr (by rw [List.mem_singleton.1 hb]; omega))
    have B9 := B7.alloc (.cells Z7 27)
    have O9 := O8.alloc (.cells Z7 27)
    generalize W8.alloc (.cells Z7 27) = W9 at *
    obtain ⟨z0, z1, z2, z3, z4, z5, z6⟩ := B9.seven
    exact bodyPost_ret (v := .tuple #[.agg Z7, .int .i64 40, .int .i64 bad]) (by simp [results, Tryz.results7, go_sem, z0, z1, z2, z3, z4, z5, z6]) rfl ⟨by unfold ParseTells; rw [HP.out], O9⟩
set_option maxHeartbeats 2000000 in
theorem ref_head_long (s : ByteArray) (w : World) (hs : 262144 < s.size) : Calls Tryz.prog 11 #[.string s] w fun e w' => e = .returned (.tuple #[.agg Z7, .int .i64 0, .int .i64 4]) ∧ Only [] w w' := by
  have e1 : decide ((262144 : Int) < (s.size : Int)) = true := by simp; omega
  have rs := store_com
  go_enter Tryz.func11, Tryz.ntmps11
  go_wp2_with fail
  exact bodyPost_ret (v := .tuple #[.agg Z7, .int .i64 0, .int .i64 4]) (by simp [results, Tryz.results11, go_sem]) rfl ⟨rfl, ((Only.refl [] w).alloc _).alloc _⟩
set_option maxRecDepth 100000 in
set_option maxHeartbeats 8000000 in
theorem ref_head_any (s : ByteArray) (w : World) (hs : s.size ≤ 262144) : Calls Tryz.prog 11 #[.string s] w fun e w' => HeadTells s w' e ∧ Only [] w w' := by
  have e1 : decide ((262144 : Int) < (s.size : Int)) = false := by simp; omega
  have rs := store_com
  have T := Lib.hid (fun w => term_0 s hs w)
  have B0 := Lib.hid ((Bk.made w 27 Z7).alloc (.cells Z7 27))
  have C0 := Lib.hid (Bk.madeAt (w := w.alloc (.cells Z7 27)) (t := 27) (cs := Z7) (b := w.heap.size + 1) (by simp))
  have O0 := Lib.hid (((Only.refl [] w).alloc (.cells Z7 27)).alloc (.cells Z7 27))
  go_enter Tryz.func11, Tryz.ntmps11
  go_wp2_with fail
  (with_reducible refine (T.out _).mono ?_)
  rintro e1 w1 ⟨hte, o1⟩
  have B1 := Lib.hid (B0.out.only o1 (by simp))
  have C1 := Lib.hid (C0.out.only o1 (by simp))
  have O1 := Lib.hid (O0.out.trans o1 (by simp))
  have L1 := B1.out.lt
  have L2 := C1.out.lt
  have S1 := o1.size
  clear o1
  rcases hte with ⟨t, n, sl, F, htg, rfl, hin, hns, hF, htv, hrt⟩ | ⟨bad, rfl, hrt⟩
  · obtain ⟨A, m, c, rfl⟩ := htv.slice
    have HTG := Lib.hid htg
    have HF := Lib.hid (show ∀ b, F b → w.heap.size + 2 ≤ b ∧ b < w1.heap.size from fun b hb => ⟨by have := (hF b hb).1; simpa using this, (hF b hb).2⟩)
    have HTV := Lib.hid htv
    have HR := Lib.hid (show run s (.go [] 0) 0 = .ok (t, n) by rw [hrt]; exact run_whole s t n)
    clear htg hF htv hrt
    have D1 := Lib.hid (Bk.made w1 27 (tcs t.k t.n t.x t.y t.S t.a t.b (.slice A m c)))
    have hne1 : w.heap.size ≠ w1.heap.size := by omega
    have hne2 : w.heap.size + 1 ≠ w1.heap.size := by omega
    have B3 := Lib.hid (B1.out.alloc (.cells (tcs t.k t.n t.x t.y t.S t.a t.b (.slice A m c)) 27))
    have C3 := Lib.hid (C1.out.alloc (.cells (tcs t.k t.n t.x t.y t.S t.a t.b (.slice A m c)) 27))
    have D3 := Lib.hid D1.out
    have V3 := Lib.hid (HTV.out.same ((Only.refl [] w1).alloc (.cells (tcs t.k t.n t.x t.y t.S t.a t.b (.slice A m c)) 27)))
    have O3 := Lib.hid (O1.out.alloc (.cells (tcs t.k t.n t.x t.y t.S t.a t.b (.slice A m c)) 27))
    have S4 : w1.heap.size + 1 ≤ (w1.alloc (.cells (tcs t.k t.n t.x t.y t.S t.a t.b (.slice A m c)) 27)).heap.size := by simp
    have CK := Lib.hid (show ∀ w, TV w F t (.slice A m c) → Calls Tryz.prog 21 #[.agg #[.int .i64 t.k, .int .i64 t.n, .complex .f64 t.x t.y, .string t.S, .int .i64 t.a, .int .i64 t.b, .slice A m c]] w fun e w' => e = .returned (.int .i64 (chk t)) ∧ Only [] w w' from fun w h => rcheck_any t HTG.out _ F w h)
    go_wp2_with fail
    (with_reducible refine (CK.out _ V3.out).mono ?_)
    rintro e1 w3 ⟨rfl, o3⟩
    have B4 := Lib.hid (B3.out.only o3 (by simp))
    have C4 := Lib.hid (C3.out.only o3 (by simp))
    have D4 := Lib.hid (D3.out.only o3 (by simp))
    have V4 := Lib.hid (V3.out.same o3)
    have O4 := Lib.hid (O3.out.trans o3 (by simp))
    have S5 := o3.size
    clear o3
    obtain ⟨z0, z1, z2, z3, z4, z5, z6⟩ := B4.out.seven
    have zf := B4.out.free
    by_cases h0 : chk t = 0
    · have g0 : (chk t != 0) = false := by rw [h0]; rfl
      obtain ⟨q0, q1, q2, q3, q4, q5, q6⟩ := D4.out.seven
      go_wp2_with fail
      obtain ⟨B7, O7⟩ := put7 (v0 := (.int .i64 t.k)) (v1 := (.int .i64 t.n)) (v2 := (.complex .f64 t.x t.y)) (v3 := (.string t.S)) (v4 := (.int .i64 t.a)) (v5 := (.int .i64 t.b)) (v6 := (.slice A m c)) B4.out (Eq.refl _)
      generalize ((((((w3.setCell ⟨w.heap.size, 0, none⟩ (.int .i64 t.k)).setCell ⟨w.heap.size, 1, none⟩ (.int .i64 t.n)).setCell ⟨w.heap.size, 2, none⟩ (.complex .f64 t.x t.y)).setCell ⟨w.heap.size, 3, none⟩ (.string t.S)).setCell ⟨w.heap.size, 4, none⟩ (.int .i64 t.a)).setCell ⟨w.heap.size, 5, none⟩ (.int .i64 t.b)).setCell ⟨w.heap.size, 6, none⟩ (.slice A m c) = W8 at *
      have O8 := O4.out.trans O7 (fun b hb => .inr (by rw [List.mem_singleton.1 hb]; omega))
      obtain ⟨z0, z1, z2, z3, z4, z5, z6⟩ := B7.seven
      exact bodyPost_ret (v := .tuple #[.agg (tcs t.k t.n t.x t.y t.S t.a t.b (.slice A m c)), .int .i64 (n : Nat), .int .i64 0]) (by simp [results, Tryz.results11, go_sem, z0, z1, z2, z3, z4, z5, z6]) rfl ⟨by unfold HeadTells; rw [HR.out]; exact ⟨_, ⟨.slice A m c, F, fun b hb => by have := (HF.out b hb).2; have := O7.size; omega, TV.only O7 (fun b hb hf => by have := (HF.out b hf).1; rw [List.mem_singleton.1 hb] at this; omega) (fun _ h => h) _ _ V4.out, rfl⟩, by rw [if_pos h0, if_pos h0, h0]⟩, O8⟩
    · have g0 : (chk t != 0) = true := bne_iff_ne.2 h0
      obtain ⟨q0, q1, q2, q3, q4, q5, q6⟩ := C4.out.seven
      go_wp2_with fail
      obtain ⟨B7, O7⟩ := put7 (v0 := (.int .i64 0)) (v1 := (.int .i64 0)) (v2 := (.complex .f64 0 0)) (v3 := (.string ⟨#[]⟩)) (v4 := (.int .i64 0)) (v5 := (.int .i64 0)) (v6 := (.slice none 0 0)) B4.out (Eq.refl _)
      generalize ((((((w3.setCell ⟨w.heap.size, 0, none⟩ (.int .i64 0)).setCell ⟨w.heap.size, 1, none⟩ (.int .i64 0)).setCell ⟨w.heap.size, 2, none⟩ (.complex .f64 0 0)).setCell ⟨w.heap.size, 3, none⟩ (.string ⟨#[]⟩)).setCell ⟨w.heap.size, 4, none⟩ (.int .i64 0)).setCell ⟨w.heap.size, 5, none⟩ (.int .i64 0)).setCell ⟨w.heap.size, 6, none⟩ (.slice none 0 0) = W8 at *
      have O8 := O4.out.trans O7 (fun b hb => .inr (by rw [List.mem_singleton.1 hb]; omega))
      obtain ⟨z0, z1, z2, z3, z4, z5, z6⟩ := B7.seven
      exact bodyPost_ret (v := .tuple #[.agg Z7, .int .i64 0, .int .i64 (chk t)]) (by simp [results, Tryz.results11, go_sem, z0, z1, z2, z3, z4, z5, z6]) rfl ⟨by unfold HeadTells; rw [HR.out]; exact ⟨_, ⟨.slice A m c, F, fun b hb => by have := (HF.out b hb).2; have := O7.size; omega, TV.only O7 (fun b hb hf => by have := (HF.out b hf).1; rw [List.mem_singleton.1 hb] at this; omega) (fun _ h => h) _ _ V4.out, rfl⟩, by rw [if_neg h0, if_neg h0]⟩, O8⟩
  · have HP := Lib.hid (hrt [])
    have L2' := C1.out.lt
    clear hrt
    obtain ⟨z0, z1, z2, z3, z4, z5, z6⟩ := B1.out.seven
    have zf := B1.out.free
    obtain ⟨x0, x1, x2, x3, x4, x5, x6⟩ := C1.out.seven
    go_wp2_with fail
    obtain ⟨B7, O7⟩ := put7 (v0 := (.int .i64 0)) (v1 := (.int .i64 0)) (v2 := (.complex .f64 0 0)) (v3 := (.string ⟨#[]⟩)) (v4 := (.int .i64 0)) (v5 := (.int .i64 0)) (v6 := (.slice none 0 0)) B1.out (Eq.refl _)
    clear z0 z1 z2 z3 z4 z5 z6 zf x0 x1 x2 x3 x4 x5 x6
    generalize ((((((w1.setCell ⟨w.heap.size, 0, none⟩ (.int .i64 0)).setCell ⟨w.heap.size, 1, none⟩ (.int .i64 0)).setCell ⟨w.heap.size, 2, none⟩ (.complex .f64 0 0)).setCell ⟨w.heap.size, 3, none⟩ (.string ⟨#[]⟩)).setCell ⟨w.heap.size, 4, none⟩ (.int .i64 0)).setCell ⟨w.heap.size, 5, none⟩ (.int .i64 0)).setCell ⟨w.heap.size, 6, none⟩ (.slice none 0 0) = W8 at *
    have O8 := O1.out.trans O7 (fun b hb => .inr (by rw [List.mem_singleton.1 hb]; omega))
    have B9 := B7.alloc (.cells Z7 27)
    have O9 := O8.alloc (.cells Z7 27)
    generalize W8.alloc (.cells Z7 27) = W9 at *
    obtain ⟨z0, z1, z2, z3, z4, z5, z6⟩ := B9.seven
    exact bodyPost_ret (v := .tuple #[.agg Z7, .int .i64 0, .int .i64 40]) (by simp [results, Tryz.results11, go_sem, z0, z1, z2, z3, z4, z5, z6]) rfl ⟨by unfold HeadTells; rw [HP.out], O9⟩
end Go.Proofs.YtlpafnibcmcjgaaGreatDoor
