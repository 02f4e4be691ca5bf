/- The document's Term: lists. -/
import Derived.Test.YtlpafnibcmcjgaaGreatDoorD9
import Derived.Deep.RegionLaw
namespace Go.Proofs.YtlpafnibcmcjgaaGreatDoor
open Go.RowKit

set_option maxRecDepth 100000 in
set_option maxHeartbeats 16000000 in
theorem term_open91 (s : ByteArray) (i : Nat) (w : World) (hs : s.size ≤ 262144) (hi : i ≤ s.size) (b : UInt8) (hj : nxt s i < s.size) (h : tkAt s (nxt s i) = .sign b) (hb : b.toNat = 91)
    (ih : ∀ (p : Nat) (w : World), i < p → p ≤ s.size → Calls Tryz.prog 19 #[.string s, .int .i64 p] w fun e w' => TermE s p w w' e ∧ Only [] w w') :
    Calls Tryz.prog 19 #[.string s, .int .i64 i] w fun e w' => TermE s i w w' e ∧ Only [] w w' := by
  have rs := store_com
  obtain ⟨j, hjn⟩ : ∃ j, nxt s i = j := ⟨_, rfl⟩
  have K0 := Lib.hid (fun w => at_s s i j b i w hs hi rfl hjn (by rw [← hjn]; exact hj) (by rw [← hjn]; exact h))
  have hf := fin_sign (tk_sign_sg h).1 (tk_sign_sg h).2
  have hge := nxt_ge s i
  have R0 : ∀ stk, run s (.go stk 0) i = run s (.go (⟨9, []⟩ :: stk) 1) (j + 1) := fun stk => by
    rw [m_open hj h (by omega) stk, hf, hjn, show kOf b = 9 by unfold kOf; rw [if_neg (by omega)]]
  rw [hjn] at hj hge
  have IH := Lib.hid ih
  have HR := Lib.hid R0
  obtain ⟨f, hff⟩ : ∃ f, j + 1 = f := ⟨_, rfl⟩
  have hfi : i < f := by omega
  have hfs : f ≤ s.size := by omega
  have hfj : ((j : Int) + 1) = (f : Int) := by omega
  rw [hff] at HR
  rw [hb, hfj] at K0
  have K1 := Lib.hid (fun (w : World) (D : Int) (hD : D = (f : Int)) => at_any s f w hs hfs)
  have B0 := Lib.hid ((Bk.made w 27 Z7).alloc (.cells Z7 27))
  have C0 := Lib.hid (Bk.madeAt (w := w.alloc (.cells Z7 27)) (t := 27) (cs := Z7) (b := w.heap.size + 1) (by simp))
  have O0 := Lib.hid (((Only.refl [] w).alloc (.cells Z7 27)).alloc (.cells Z7 27))
  have g1 : ((91 : Int) == 91) = true := by decide
  obtain ⟨q, hq⟩ : ∃ q, nxt s f = q := ⟨_, rfl⟩
  have hqf : f ≤ q := by rw [← hq]; exact nxt_ge s f
  by_cases hsh : q < s.size ∧ ∃ c, tkAt s q = .sign c ∧ c.toNat = 93
  · obtain ⟨hq1, c, hc, hc2⟩ := hsh
    have K2 := Lib.hid (fun w => at_s s f q c f w hs hfs rfl hq hq1 hc)
    obtain ⟨n, hn⟩ : ∃ n, q + 1 = n := ⟨_, rfl⟩
    rw [hc2, show (q : Int) + 1 = (n : Int) by omega] at K2
    have hf2 := fin_sign (tk_sign_sg hc).1 (tk_sign_sg hc).2
    have R1 : ∀ stk, run s (.go stk 0) i = run s (put stk (.tup 9 [])) n := fun stk => by
      rw [HR.out, m_shut (k := 9) (by rw [hq]; exact hq1) (by rw [hq]; exact hc) (by decide) (by rw [hc2]; decide) (by decide) stk, hq, hf2, hn]
    have HR1 := Lib.hid R1
    clear R0 R1 hjn hj h hb hf hge ih hff hq hc hc2 hf2
    go_enter Tryz.func19, Tryz.ntmps19
    go_wp2_with fail
    (with_reducible refine (K0.out _).mono ?_)
    rintro e1 w1 ⟨rfl, o1⟩
    have B1 := Lib.hid (B0.out.only o1 (by simp))
    have C1 := Lib.hid (C0.out.only o1 (by simp))
    have O1 := Lib.hid (O0.out.trans o1 (by simp))
    have L1 := B1.out.lt
    have L2 := C1.out.lt
    clear o1
    go_wp2_with fail
    have b4 := (B1.out.alloc (.cells #[.int .i64 1, .int .u8 91, .int .i64 0, .int .i64 0, .complex .f64 0 0, .string ⟨#[]⟩, .int .i64 0, .int .i64 0, .slice none 0 0, .int .i64 j, .int .i64 f] 52)).alloc (.cells #[.int .i64 9, .int .i64 0, .complex .f64 0 0, .string ⟨#[]⟩, .int .i64 0, .int .i64 0, .slice none 0 0] 27)
    have b7 := (C1.out.alloc (.cells #[.int .i64 1, .int .u8 91, .int .i64 0, .int .i64 0, .complex .f64 0 0, .string ⟨#[]⟩, .int .i64 0, .int .i64 0, .slice none 0 0, .int .i64 j, .int .i64 f] 52)).alloc (.cells #[.int .i64 9, .int .i64 0, .complex .f64 0 0, .string ⟨#[]⟩, .int .i64 0, .int .i64 0, .slice none 0 0] 27)
    have b9 : Bk ((w1.alloc (.cells #[.int .i64 1, .int .u8 91, .int .i64 0, .int .i64 0, .complex .f64 0 0, .string ⟨#[]⟩, .int .i64 0, .int .i64 0, .slice none 0 0, .int .i64 j, .int .i64 f] 52)).alloc (.cells #[.int .i64 9, .int .i64 0, .complex .f64 0 0, .string ⟨#[]⟩, .int .i64 0, .int .i64 0, .slice none 0 0] 27)) (w1.heap.size + 1) 27 #[.int .i64 9, .int .i64 0, .complex .f64 0 0, .string ⟨#[]⟩, .int .i64 0, .int .i64 0, .slice none 0 0] := Bk.madeAt (by simp)
    have o1 := (O1.out.alloc (.cells #[.int .i64 1, .int .u8 91, .int .i64 0, .int .i64 0, .complex .f64 0 0, .string ⟨#[]⟩, .int .i64 0, .int .i64 0, .slice none 0 0, .int .i64 j, .int .i64 f] 52)).alloc (.cells #[.int .i64 9, .int .i64 0, .complex .f64 0 0, .string ⟨#[]⟩, .int .i64 0, .int .i64 0, .slice none 0 0] 27)
    have l1 : w1.heap.size + 2 ≤ ((w1.alloc (.cells #[.int .i64 1, .int .u8 91, .int .i64 0, .int .i64 0, .complex .f64 0 0, .string ⟨#[]⟩, .int .i64 0, .int .i64 0, .slice none 0 0, .int .i64 j, .int .i64 f] 52)).alloc (.cells #[.int .i64 9, .int .i64 0, .complex .f64 0 0, .string ⟨#[]⟩, .int .i64 0, .int .i64 0, .slice none 0 0] 27)).heap.size := by simp
    generalize (w1.alloc (.cells #[.int .i64 1, .int .u8 91, .int .i64 0, .int .i64 0, .complex .f64 0 0, .string ⟨#[]⟩, .int .i64 0, .int .i64 0, .slice none 0 0, .int .i64 j, .int .i64 f] 52)).alloc (.cells #[.int .i64 9, .int .i64 0, .complex .f64 0 0, .string ⟨#[]⟩, .int .i64 0, .int .i64 0, .slice none 0 0] 27) = W1 at *
    (with_reducible refine (K2.out _).mono ?_)
    rintro e1 w2 ⟨rfl, o2⟩
    have B2 := Lib.hid (b4.only o2 (by simp))
    have C2 := Lib.hid (b7.only o2 (by simp))
    have E2 := Lib.hid (b9.only o2 (by simp))
    have O2 := Lib.hid (o1.trans o2 (by simp))
    have l2 := o2.size
    clear b4 b7 b9 o1 o2
    obtain ⟨z0, z1, z2, z3, z4, z5, z6⟩ := B2.out.seven
    have zf := B2.out.free
    obtain ⟨x0, x1, x2, x3, x4, x5, x6⟩ := E2.out.seven
    have L9 := E2.out.lt
    have L4 := B2.out.lt
    have L7 := C2.out.lt
    have D2 := Lib.hid (Bk.made w2 52 (tks 1 93 0 0 0 0 ⟨#[]⟩ 0 0 (.slice none 0 0) q n))
    obtain ⟨y0, y1, y2, y3, y4, y5, y6, y7, y8, y9, y10⟩ := D2.out.eleven
    go_wp2_with fail
    go_region
    go_wp2_with fail
    obtain ⟨B7, O7⟩ := put7 (v0 := (.int .i64 9)) (v1 := (.int .i64 0)) (v2 := (.complex .f64 0 0)) (v3 := (.string ⟨#[]⟩)) (v4 := (.int .i64 0)) (v5 := (.int .i64 0)) (v6 := (.slice none 0 0)) B2.out (Eq.refl _)
    clear z0 z1 z2 z3 z4 z5 z6 zf y0 y1 y2 y3 y4 y5 y6 y7 y8 y9 y10 x0 x1 x2 x3 x4 x5 x6
    generalize ((((((w2.setCell ⟨w.heap.size, 0, none⟩ (.int .i64 9)).setCell ⟨w.heap.size, 1, none⟩ (.int .i64 0)).setCell ⟨w.heap.size, 2, none⟩ (.complex .f64 0 0)).setCell ⟨w.heap.size, 3, none⟩ (.string ⟨#[]⟩)).setCell ⟨w.heap.size, 4, none⟩ (.int .i64 0)).setCell ⟨w.heap.size, 5, none⟩ (.int .i64 0)).setCell ⟨w.heap.size, 6, none⟩ (.slice none 0 0) = W7 at *
    have B8 := (B7.alloc (.cells (tks 1 93 0 0 0 0 ⟨#[]⟩ 0 0 (.slice none 0 0) q n) 52)).drew
    have O8 := ((O2.out.trans O7 (fun i hi => .inr (by rw [List.mem_singleton.1 hi]; omega))).alloc (.cells (tks 1 93 0 0 0 0 ⟨#[]⟩ 0 0 (.slice none 0 0) q n) 52)).drew
    generalize (W7.alloc (.cells (tks 1 93 0 0 0 0 ⟨#[]⟩ 0 0 (.slice none 0 0) q n) 52)).drew = W8 at *
    obtain ⟨z0, z1, z2, z3, z4, z5, z6⟩ := B8.seven
    exact bodyPost_ret (v := .tuple #[.agg (tcs 9 0 0 0 ⟨#[]⟩ 0 0 (.slice none 0 0)), .int .i64 (n : Nat), .int .i64 (-1)]) (by simp [results, Tryz.results19, go_sem, z0, z1, z2, z3, z4, z5, z6]) rfl ⟨.inl ⟨.tup 9 [], n, .slice none 0 0, fun _ => False, ⟨by decide, trivial⟩, rfl, by omega, by omega, fun _ h => h.elim, by simp only [TV]; exact ⟨Option.none, 0, rfl, Nat.le_refl _, by decide, .inl trivial⟩, HR1.out⟩, O8⟩
  · have K2 := Lib.hid (fun w => at_y s f q f w hs hfs rfl hq 93 93 (fun b hb1 hb2 => ⟨fun e => hsh ⟨hb1, b, hb2, e⟩, fun e => hsh ⟨hb1, b, hb2, e⟩⟩))
    have R1 : ∀ stk, run s (.go stk 0) i = run s (.go (⟨9, []⟩ :: stk) 0) f := fun stk => by
      rw [HR.out, m_start (k := 9) hfs (by decide) (fun b hb1 hb2 => ⟨(tk_sign_sg hb2).2, fun e => hsh ⟨by rw [← hq]; exact hb1, b, by rw [← hq]; exact hb2, e⟩⟩)]
    have HR1 := Lib.hid R1
    clear R0 R1 hjn hj h hb hf hge ih hff hq hsh
    go_enter Tryz.func19, Tryz.ntmps19
    go_wp2_with fail
    (with_reducible refine (K0.out _).mono ?_)
    rintro e1 w1 ⟨rfl, o1⟩
    have B1 := Lib.hid (B0.out.only o1 (by simp))
    have C1 := Lib.hid (C0.out.only o1 (by simp))
    have O1 := Lib.hid (O0.out.trans o1 (by simp))
    have L1 := B1.out.lt
    have L2 := C1.out.lt
    clear o1
    go_wp2_with fail
    have b4 := (B1.out.alloc (.cells #[.int .i64 1, .int .u8 91, .int .i64 0, .int .i64 0, .complex .f64 0 0, .string ⟨#[]⟩, .int .i64 0, .int .i64 0, .slice none 0 0, .int .i64 j, .int .i64 f] 52)).alloc (.cells #[.int .i64 9, .int .i64 0, .complex .f64 0 0, .string ⟨#[]⟩, .int .i64 0, .int .i64 0, .slice none 0 0] 27)
    have b7 := (C1.out.alloc (.cells #[.int .i64 1, .int .u8 91, .int .i64 0, .int .i64 0, .complex .f64 0 0, .string ⟨#[]⟩, .int .i64 0, .int .i64 0, .slice none 0 0, .int .i64 j, .int .i64 f] 52)).alloc (.cells #[.int .i64 9, .int .i64 0, .complex .f64 0 0, .string ⟨#[]⟩, .int .i64 0, .int .i64 0, .slice none 0 0] 27)
    have b9 : Bk ((w1.alloc (.cells #[.int .i64 1, .int .u8 91, .int .i64 0, .int .i64 0, .complex .f64 0 0, .string ⟨#[]⟩, .int .i64 0, .int .i64 0, .slice none 0 0, .int .i64 j, .int .i64 f] 52)).alloc (.cells #[.int .i64 9, .int .i64 0, .complex .f64 0 0, .string ⟨#[]⟩, .int .i64 0, .int .i64 0, .slice none 0 0] 27)) (w1.heap.size + 1) 27 #[.int .i64 9, .int .i64 0, .complex .f64 0 0, .string ⟨#[]⟩, .int .i64 0, .int .i64 0, .slice none 0 0] := Bk.madeAt (by simp)
    have o1 := (O1.out.alloc (.cells #[.int .i64 1, .int .u8 91, .int .i64 0, .int .i64 0, .complex .f64 0 0, .string ⟨#[]⟩, .int .i64 0, .int .i64 0, .slice none 0 0, .int .i64 j, .int .i64 f] 52)).alloc (.cells #[.int .i64 9, .int .i64 0, .complex .f64 0 0, .string ⟨#[]⟩, .int .i64 0, .int .i64 0, .slice none 0 0] 27)
    have l1 : w1.heap.size + 2 ≤ ((w1.alloc (.cells #[.int .i64 1, .int .u8 91, .int .i64 0, .int .i64 0, .complex .f64 0 0, .string ⟨#[]⟩, .int .i64 0, .int .i64 0, .slice none 0 0, .int .i64 j, .int .i64 f] 52)).alloc (.cells #[.int .i64 9, .int .i64 0, .complex .f64 0 0, .string ⟨#[]⟩, .int .i64 0, .int .i64 0, .slice none 0 0] 27)).heap.size := by simp
    generalize (w1.alloc (.cells #[.int .i64 1, .int .u8 91, .int .i64 0, .int .i64 0, .complex .f64 0 0, .string ⟨#[]⟩, .int .i64 0, .int .i64 0, .slice none 0 0, .int .i64 j, .int .i64 f] 52)).alloc (.cells #[.int .i64 9, .int .i64 0, .complex .f64 0 0, .string ⟨#[]⟩, .int .i64 0, .int .i64 0, .slice none 0 0] 27) = W1 at *
    (with_reducible refine (K2.out _).mono ?_)
    rintro e1 w2 ⟨⟨kd, sg, k, n, X, Y, S, a, b, e, rfl, hk1⟩, o2⟩
    have B2 := Lib.hid (b4.only o2 (by simp))
    have C2 := Lib.hid (b7.only o2 (by simp))
    have E2 := Lib.hid (b9.only o2 (by simp))
    have O2 := Lib.hid (o1.trans o2 (by simp))
    have l2 := o2.size
    clear b4 b7 b9 o1 o2
    obtain ⟨z0, z1, z2, z3, z4, z5, z6⟩ := B2.out.seven
    have zf := B2.out.free
    obtain ⟨x0, x1, x2, x3, x4, x5, x6⟩ := E2.out.seven
    have D2 := Lib.hid (Bk.made w2 52 (tks kd sg k n X Y S a b (.slice none 0 0) q e))
    obtain ⟨y0, y1, y2, y3, y4, y5, y6, y7, y8, y9, y10⟩ := D2.out.eleven
    have hkb : ((kd == 1) = false) ∨ (kd == 1) = true ∧ (sg == 93) = false := by
      rcases hk1 with h | ⟨h, h2, _⟩
      · exact .inl (beq_eq_false_iff_ne.2 h)
      · exact .inr ⟨beq_iff_eq.2 h, beq_eq_false_iff_ne.2 h2⟩
    have HX0 := Lib.hid (Out.none (w2.alloc (.cells (tks kd sg k n X Y S a b (.slice none 0 0) q e) 52)) (Nat.le_refl _))
    obtain ⟨Bs, hBs⟩ : ∃ Bs, (w2.alloc (.cells (tks kd sg k n X Y S a b (.slice none 0 0) q e) 52)).heap.size = Bs := ⟨_, rfl⟩
    have hBs2 : Bs = w2.heap.size + 1 := by rw [← hBs]; simp
    rw [hBs] at HX0
    clear hk1 hBs
    rcases hkb with hkb | ⟨hkb, hkb2⟩
    all_goals
      go_wp2_with fail
      go_loopw [11] (fun av wr => ∃ (p : Nat) (l : List T) (xs : List Value) (F : Nat → Prop) (A : Option Addr) (c : Nat) (kd sg k n : Int) (X Y : Nat) (S : ByteArray) (a b a' e : Int), av = .int .i64 p ∧ i < p ∧ p ≤ s.size ∧ l.length ≤ p ∧ Goods l ∧ (∀ stk, run s (.go stk 0) i = run s (.go (⟨9, l⟩ :: stk) 0) p) ∧ Bk wr w.heap.size 27 Z7 ∧ Bk wr (w.heap.size + 1) 27 Z7 ∧ Bk wr (w1.heap.size + 1) 27 (tcs 9 0 0 0 ⟨#[]⟩ 0 0 (.slice A l.length c)) ∧ Bk wr w2.heap.size 52 (tks kd sg k n X Y S a b (.slice none 0 0) a' e) ∧ Out wr Bs F (.slice A l.length c) l xs ∧ Only [] w wr) (fun av _ => s.size - (intOf av).toNat)
      case atStart => exact ⟨f, [], [], fun _ => False, Option.none, 0, _, _, _, _, _, _, _, _, _, _, _, rfl, hfi, hfs, Nat.zero_le _, trivial, HR1.out, B2.out.alloc _, C2.out.alloc _, E2.out.alloc _, D2.out, HX0.out, O2.out.alloc _⟩
      case round =>
        obtain ⟨p, l, xs, F, A, c, kd', sg', k', n', X', Y', S', a1, b1, a2, e', rfl, hip, hps, hlp, hgl, hrun, r4, r7, r9, r12, hout, hon⟩ := hrel
        have T := Lib.hid (IH.out p wr hip hps)
        have HB4 := Lib.hid r4
        have HB7 := Lib.hid r7
        have HB9 := Lib.hid r9
        have HB12 := Lib.hid r12
        have HO := Lib.hid hout
        have HN := Lib.hid hon
        have HG := Lib.hid hgl
        have HRU := Lib.hid hrun
        have L9 := r9.lt
        have L12 := r12.lt
        clear r4 r7 r9 r12 hout hon hgl hrun
        go_wp2_with fail
        (with_reducible refine (T.out).mono ?_)
        rintro e1 w3 ⟨hte, o3⟩
        have M4 := Lib.hid (HB4.out.only o3 (by simp))
        have M7 := Lib.hid (HB7.out.only o3 (by simp))
        have M9 := Lib.hid (HB9.out.only o3 (by simp))
        have M12 := Lib.hid (HB12.out.only o3 (by simp))
        have MO := Lib.hid (HO.out.only o3 (by simp))
        have MN := Lib.hid (HN.out.trans o3 (by simp))
        have S3 := o3.size
        clear o3
        rcases hte with ⟨t, m, slt, Fx, htg, rfl, hpm, hms, hFx, htv, hrt⟩ | ⟨bad, rfl, hrt⟩
        · obtain ⟨At, nt, ct, rfl⟩ := htv.slice
          have HTG := Lib.hid htg
          have HFX := Lib.hid hFx
          have HTV := Lib.hid htv
          have HRT := Lib.hid hrt
          clear htg hFx htv hrt
          have N13 := Lib.hid (Bk.made w3 27 (tcs t.k t.n t.x t.y t.S t.a t.b (.slice At nt ct)))
          obtain ⟨t0, t1, t2, t3, t4, t5, t6⟩ := N13.out.seven
          have HFX2 := Lib.hid (show ∀ b, Fx b → Bs ≤ b ∧ b < w3.heap.size ∧ (Value.slice A l.length c).ownBlock ≠ some b from fun b hb => ⟨Nat.le_trans HO.out.le (HFX.out b hb).1, (HFX.out b hb).2, fun e => by have := (Row.block HO.out.row e).2; have := (HFX.out b hb).1; omega⟩)
          have s6 : ∀ o, (w3.alloc o).cell? ⟨w1.heap.size + 1, 6, none⟩ = some (.slice A l.length c) := fun o => (M9.out.alloc o).cell0 rfl
          obtain ⟨inf, hi0, hz0, hz1, hz2⟩ := info_parts info_term
          have hbz : ∀ o1 o2, Bs ≤ ((w3.alloc o1).alloc o2).heap.size := fun o1 o2 => by have := MO.out.le; simp; omega
          go_wp2_with (at_builtin; refine wpList_append_lies _ (by rfl) _ _ _ (by rfl) Bs 27 inf _ 7 88 Tryz.underlying25 hi0 hz0 hz1 hz2 rfl (by omega) _ l.length xs (by rfl) (Row.alloc (Row.alloc MO.out.row _) _) _ 1 1 (tcs t.k t.n t.x t.y t.S t.a t.b (.slice At nt ct)).toList (by rfl) rfl (World.news_of_block (Bk.madeAt (w := w3.alloc (.cells (tcs t.k t.n t.x t.y t.S t.a t.b (.slice At nt ct)) 27)) (b := w3.heap.size + 1) (by simp))) (by simp [Value.oneCell']) (by omega) (by unfold maxLen; omega) (by omega) (hbz _ _) _ rfl ?_; intro g cap' w4 hown hgrow hat hlt; obtain ⟨k9, kO, k4⟩ := app_facts M9.out MO.out (by omega) HTV.out HFX2.out hown hgrow hat; obtain ⟨d0, d1, d2, d3, d4, d5, d6⟩ := k9.seven; have df := k9.free; have K9 := Lib.hid k9; have KO := Lib.hid kO; have K4 := Lib.hid k4; clear k9 kO k4 hown hgrow hat)
          have N9 := Lib.hid (K9.out.setTo 6 (.slice (some ⟨g, 0, none⟩) (l.length + 1) cap') (tcs 9 0 0 0 ⟨#[]⟩ 0 0 (.slice (some ⟨g, 0, none⟩) (l.length + 1) cap')) rfl)
          have o5 : Only [w1.heap.size + 1] w4 (w4.setCell ⟨w1.heap.size + 1, 6, none⟩ (.slice (some ⟨g, 0, none⟩) (l.length + 1) cap')) := (Only.refl _ _).set (.inl (by simp)) _
          have NO := Lib.hid (KO.out.only o5 (fun b hb => by rw [List.mem_singleton.1 hb]; exact .inl (by omega)))
          obtain ⟨S4, p4, q4⟩ := K4.out
          have nS : ∀ b, b < Bs → b ∉ S4 := fun b hb hm => by have := q4 b hm; omega
          have N4 := Lib.hid ((M4.out.only p4 (nS _ (by omega))).only o5 (by simp; omega))
          have N7 := Lib.hid ((M7.out.only p4 (nS _ (by omega))).only o5 (by simp; omega))
          have N12 := Lib.hid ((M12.out.only p4 (nS _ (by omega))).only o5 (by simp; omega))
          have NN := Lib.hid ((MN.out.trans p4 (fun b hb => .inr (by have := q4 b hb; omega))).trans o5 (fun b hb => .inr (by rw [List.mem_singleton.1 hb]; omega)))
          clear d0 d1 d2 d3 d4 d5 d6 df t0 t1 t2 t3 t4 t5 t6 s6 o5 p4 q4 nS S4
          generalize w4.setCell ⟨w1.heap.size + 1, 6, none⟩ (.slice (some ⟨g, 0, none⟩) (l.length + 1) cap') = w5 at *
          obtain ⟨z, hz⟩ : ∃ z, nxt s m = z := ⟨_, rfl⟩
          have hmz : m ≤ z := by rw [← hz]; exact nxt_ge s m
          have HRP : Hid (∀ stk, run s (.go stk 0) i = run s (.go (⟨9, l ++ [t]⟩ :: stk) 2) m) := Lib.hid (fun stk => by rw [HRU.out, HRT.out]; rfl)
          have HG2 : Hid (Goods (l ++ [t])) := Lib.hid (HG.out.snoc HTG.out)
          have hll : (l ++ [t]).length = l.length + 1 := by simp
          by_cases hsh2 : z < s.size ∧ ∃ c, tkAt s z = .sign c ∧ c.toNat = 93
          · obtain ⟨hq1, c2, hc, hc2⟩ := hsh2
            have K3 := Lib.hid (fun w => at_s s m z c2 m w hs hms rfl hz hq1 hc)
            obtain ⟨n2, hn2⟩ : ∃ n2, z + 1 = n2 := ⟨_, rfl⟩
            rw [hc2, show (z : Int) + 1 = (n2 : Int) by omega] at K3
            have HR2 : Hid (∀ stk, run s (.go stk 0) i = run s (put stk (.tup 9 (l ++ [t]))) n2) := Lib.hid (fun stk => by
              rw [HRP.out, m_shut (k := 9) (by rw [hz]; exact hq1) (by rw [hz]; exact hc) (by decide) (by rw [hc2]; decide) (by decide) stk, hz, fin_sign (tk_sign_sg hc).1 (tk_sign_sg hc).2, hn2])
            clear hz hc hc2
            (with_reducible refine (K3.out _).mono ?_)
            rintro e1 w6 ⟨rfl, o6⟩
            have P4 := Lib.hid (N4.out.only o6 (by simp))
            have P7 := Lib.hid (N7.out.only o6 (by simp))
            have P9 := Lib.hid (N9.out.only o6 (by simp))
            have P12 := Lib.hid (N12.out.only o6 (by simp))
            have PO := Lib.hid (NO.out.only o6 (by simp))
            have PN := Lib.hid (NN.out.trans o6 (by simp))
            have S6 := o6.size
            clear o6
            obtain ⟨u0, u1, u2, u3, u4, u5, u6, u7, u8, u9, u10⟩ := P12.out.eleven
            have uf := P12.out.free
            obtain ⟨z0, z1, z2, z3, z4, z5, z6⟩ := P4.out.seven
            have zf := P4.out.free
            obtain ⟨x0, x1, x2, x3, x4, x5, x6⟩ := P9.out.seven
            obtain ⟨y0, y1, y2, y3, y4, y5, y6⟩ := P7.out.seven
            go_wp2_with fail
            obtain ⟨Q12, O12⟩ := put11 (v0 := (.int .i64 1)) (v1 := (.int .u8 93)) (v2 := (.int .i64 0)) (v3 := (.int .i64 0)) (v4 := (.complex .f64 0 0)) (v5 := (.string ⟨#[]⟩)) (v6 := (.int .i64 0)) (v7 := (.int .i64 0)) (v8 := (.slice none 0 0)) (v9 := (.int .i64 z)) (v10 := (.int .i64 n2)) P12.out (Eq.refl _)
            have Q4 := P4.out.only O12 (by simp; omega)
            have Q7 := P7.out.only O12 (by simp; omega)
            have Q9 := P9.out.only O12 (by simp; omega)
            have QO := PO.out.only O12 (fun b hb => .inl (by rw [List.mem_singleton.1 hb]; omega))
            have QN := PN.out.trans O12 (fun b hb => .inr (by rw [List.mem_singleton.1 hb]; omega))
            clear u0 u1 u2 u3 u4 u5 u6 u7 u8 u9 u10 uf z0 z1 z2 z3 z4 z5 z6 zf x0 x1 x2 x3 x4 x5 x6 y0 y1 y2 y3 y4 y5 y6
            generalize ((((((((((w6.setCell ⟨w2.heap.size, 0, none⟩ (.int .i64 1)).setCell ⟨w2.heap.size, 1, none⟩ (.int .u8 93)).setCell ⟨w2.heap.size, 2, none⟩ (.int .i64 0)).setCell ⟨w2.heap.size, 3, none⟩ (.int .i64 0)).setCell ⟨w2.heap.size, 4, none⟩ (.complex .f64 0 0)).setCell ⟨w2.heap.size, 5, none⟩ (.string ⟨#[]⟩)).setCell ⟨w2.heap.size, 6, none⟩ (.int .i64 0)).setCell ⟨w2.heap.size, 7, none⟩ (.int .i64 0)).setCell ⟨w2.heap.size, 8, none⟩ (.slice none 0 0)).setCell ⟨w2.heap.size, 9, none⟩ (.int .i64 z)).setCell ⟨w2.heap.size, 10, none⟩ (.int .i64 n2) = W7 at *
            clear O12
            obtain ⟨B7, O7⟩ := put7 (v0 := (.int .i64 9)) (v1 := (.int .i64 0)) (v2 := (.complex .f64 0 0)) (v3 := (.string ⟨#[]⟩)) (v4 := (.int .i64 0)) (v5 := (.int .i64 0)) (v6 := (.slice (some ⟨g, 0, none⟩) (l.length + 1) cap')) Q4 (Eq.refl _)
            generalize ((((((W7.setCell ⟨w.heap.size, 0, none⟩ (.int .i64 9)).setCell ⟨w.heap.size, 1, none⟩ (.int .i64 0)).setCell ⟨w.heap.size, 2, none⟩ (.complex .f64 0 0)).setCell ⟨w.heap.size, 3, none⟩ (.string ⟨#[]⟩)).setCell ⟨w.heap.size, 4, none⟩ (.int .i64 0)).setCell ⟨w.heap.size, 5, none⟩ (.int .i64 0)).setCell ⟨w.heap.size, 6, none⟩ (.slice (some ⟨g, 0, none⟩) (l.length + 1) cap') = W8 at *
            obtain ⟨F', hF', hT'⟩ := QO.whole 9
            have hT2 := TV.only O7 (fun b hb hf => by have := (hF' b hf).1; rw [List.mem_singleton.1 hb] at this; omega) (fun _ h => h) _ _ hT'
            have O8 := QN.trans O7 (fun b hb => .inr (by rw [List.mem_singleton.1 hb]; omega))
            obtain ⟨z0, z1, z2, z3, z4, z5, z6⟩ := B7.seven
            exact bodyPost_ret (v := .tuple #[.agg (tcs 9 0 0 0 ⟨#[]⟩ 0 0 (.slice (some ⟨g, 0, none⟩) (l.length + 1) cap')), .int .i64 (n2 : Nat), .int .i64 (-1)]) (by simp [results, Tryz.results19, go_sem, z0, z1, z2, z3, z4, z5, z6]) rfl ⟨.inl ⟨.tup 9 (l ++ [t]), n2, .slice (some ⟨g, 0, none⟩) (l.length + 1) cap', F', ⟨by decide, HG2.out⟩, rfl, by omega, by omega, fun b hb => ⟨by have := (hF' b hb).1; omega, Nat.lt_of_lt_of_le (hF' b hb).2 O7.size⟩, hT2, HR2.out⟩, O8⟩
          · by_cases hco : z < s.size ∧ ∃ c, tkAt s z = .sign c ∧ c.toNat = 44
            · obtain ⟨hq1, c2, hc, hc2⟩ := hco
              have K3 := Lib.hid (fun w => at_s s m z c2 m w hs hms rfl hz hq1 hc)
              obtain ⟨n2, hn2⟩ : ∃ n2, z + 1 = n2 := ⟨_, rfl⟩
              rw [hc2, show (z : Int) + 1 = (n2 : Int) by omega] at K3
              have HR2 : Hid (∀ stk, run s (.go stk 0) i = run s (.go (⟨9, l ++ [t]⟩ :: stk) 0) n2) := Lib.hid (fun stk => by
                rw [HRP.out, m_comma (by rw [hz]; exact hq1) (by rw [hz]; exact hc) hc2, hz, fin_sign (tk_sign_sg hc).1 (tk_sign_sg hc).2, hn2])
              clear hz hc hc2 hsh2
              (with_reducible refine (K3.out _).mono ?_)
              rintro e1 w6 ⟨rfl, o6⟩
              have P4 := Lib.hid (N4.out.only o6 (by simp))
              have P7 := Lib.hid (N7.out.only o6 (by simp))
              have P9 := Lib.hid (N9.out.only o6 (by simp))
              have P12 := Lib.hid (N12.out.only o6 (by simp))
              have PO := Lib.hid (NO.out.only o6 (by simp))
              have PN := Lib.hid (NN.out.trans o6 (by simp))
              have S6 := o6.size
              clear o6
              obtain ⟨u0, u1, u2, u3, u4, u5, u6, u7, u8, u9, u10⟩ := P12.out.eleven
              have uf := P12.out.free
              obtain ⟨z0, z1, z2, z3, z4, z5, z6⟩ := P4.out.seven
              have zf := P4.out.free
              obtain ⟨x0, x1, x2, x3, x4, x5, x6⟩ := P9.out.seven
              obtain ⟨y0, y1, y2, y3, y4, y5, y6⟩ := P7.out.seven
              go_wp2_with fail
              obtain ⟨Q12, O12⟩ := put11 (v0 := (.int .i64 1)) (v1 := (.int .u8 44)) (v2 := (.int .i64 0)) (v3 := (.int .i64 0)) (v4 := (.complex .f64 0 0)) (v5 := (.string ⟨#[]⟩)) (v6 := (.int .i64 0)) (v7 := (.int .i64 0)) (v8 := (.slice none 0 0)) (v9 := (.int .i64 z)) (v10 := (.int .i64 n2)) P12.out (Eq.refl _)
              have Q4 := P4.out.only O12 (by simp; omega)
              have Q7 := P7.out.only O12 (by simp; omega)
              have Q9 := P9.out.only O12 (by simp; omega)
              have QO := PO.out.only O12 (fun b hb => .inl (by rw [List.mem_singleton.1 hb]; omega))
              have QN := PN.out.trans O12 (fun b hb => .inr (by rw [List.mem_singleton.1 hb]; omega))
              clear u0 u1 u2 u3 u4 u5 u6 u7 u8 u9 u10 uf z0 z1 z2 z3 z4 z5 z6 zf x0 x1 x2 x3 x4 x5 x6 y0 y1 y2 y3 y4 y5 y6
              generalize ((((((((((w6.setCell ⟨w2.heap.size, 0, none⟩ (.int .i64 1)).setCell ⟨w2.heap.size, 1, none⟩ (.int .u8 44)).setCell ⟨w2.heap.size, 2, none⟩ (.int .i64 0)).setCell ⟨w2.heap.size, 3, none⟩ (.int .i64 0)).setCell ⟨w2.heap.size, 4, none⟩ (.complex .f64 0 0)).setCell ⟨w2.heap.size, 5, none⟩ (.string ⟨#[]⟩)).setCell ⟨w2.heap.size, 6, none⟩ (.int .i64 0)).setCell ⟨w2.heap.size, 7, none⟩ (.int .i64 0)).setCell ⟨w2.heap.size, 8, none⟩ (.slice none 0 0)).setCell ⟨w2.heap.size, 9, none⟩ (.int .i64 z)).setCell ⟨w2.heap.size, 10, none⟩ (.int .i64 n2) = W7 at *
              clear O12
              go_roundw
              case rel => exact ⟨n2, l ++ [t], _, _, some ⟨g, 0, none⟩, cap', _, _, _, _, _, _, _, _, _, _, _, rfl, by omega, by omega, by omega, HG2.out, HR2.out, Q4, Q7, by rw [hll]; exact Q9, Q12, by rw [hll]; exact QO, QN⟩
              case measure =>
                simp [intOf]
                omega
            · have K3 := Lib.hid (fun w => at_y s m z m w hs hms rfl hz 93 44 (fun b hb1 hb2 => ⟨fun e => hsh2 ⟨hb1, b, hb2, e⟩, fun e => hco ⟨hb1, b, hb2, e⟩⟩))
              have HR2 : Hid (∀ stk, run s (.go stk 0) i = .error z) := Lib.hid (fun stk => by
                rw [HRP.out, m_other (k := 9) hms (by decide) (fun b hb1 hb2 => ⟨(tk_sign_sg hb2).2, fun e => hsh2 ⟨by rw [← hz]; exact hb1, b, by rw [← hz]; exact hb2, e⟩, fun e => hco ⟨by rw [← hz]; exact hb1, b, by rw [← hz]; exact hb2, e⟩⟩), hz])
              clear hz hsh2 hco
              (with_reducible refine (K3.out _).mono ?_)
              rintro e1 w6 ⟨⟨kd2, sg2, k2, n2, X2, Y2, S2, a3, b3, e3, rfl, hk3⟩, o6⟩
              have P4 := Lib.hid (N4.out.only o6 (by simp))
              have P7 := Lib.hid (N7.out.only o6 (by simp))
              have P9 := Lib.hid (N9.out.only o6 (by simp))
              have P12 := Lib.hid (N12.out.only o6 (by simp))
              have PO := Lib.hid (NO.out.only o6 (by simp))
              have PN := Lib.hid (NN.out.trans o6 (by simp))
              have S6 := o6.size
              clear o6
              obtain ⟨u0, u1, u2, u3, u4, u5, u6, u7, u8, u9, u10⟩ := P12.out.eleven
              have uf := P12.out.free
              obtain ⟨z0, z1, z2, z3, z4, z5, z6⟩ := P4.out.seven
              have zf := P4.out.free
              obtain ⟨x0, x1, x2, x3, x4, x5, x6⟩ := P9.out.seven
              obtain ⟨y0, y1, y2, y3, y4, y5, y6⟩ := P7.out.seven
              rcases hk3 with hk3 | ⟨hk3, hk4, hk5⟩
              · have g4 : (kd2 == 1) = false := beq_eq_false_iff_ne.2 hk3
                have g5 : (kd2 != 1) = true := by rw [bne, g4]; rfl
                clear hk3
                go_wp2_with fail
                obtain ⟨Q12, O12⟩ := put11 (v0 := (.int .i64 kd2)) (v1 := (.int .u8 sg2)) (v2 := (.int .i64 k2)) (v3 := (.int .i64 n2)) (v4 := (.complex .f64 X2 Y2)) (v5 := (.string S2)) (v6 := (.int .i64 a3)) (v7 := (.int .i64 b3)) (v8 := (.slice none 0 0)) (v9 := (.int .i64 z)) (v10 := (.int .i64 e3)) P12.out (Eq.refl _)
                have Q4 := P4.out.only O12 (by simp; omega)
                have Q7 := P7.out.only O12 (by simp; omega)
                have Q9 := P9.out.only O12 (by simp; omega)
                have QO := PO.out.only O12 (fun b hb => .inl (by rw [List.mem_singleton.1 hb]; omega))
                have QN := PN.out.trans O12 (fun b hb => .inr (by rw [List.mem_singleton.1 hb]; omega))
                clear u0 u1 u2 u3 u4 u5 u6 u7 u8 u9 u10 uf z0 z1 z2 z3 z4 z5 z6 zf x0 x1 x2 x3 x4 x5 x6 y0 y1 y2 y3 y4 y5 y6
                generalize ((((((((((w6.setCell ⟨w2.heap.size, 0, none⟩ (.int .i64 kd2)).setCell ⟨w2.heap.size, 1, none⟩ (.int .u8 sg2)).setCell ⟨w2.heap.size, 2, none⟩ (.int .i64 k2)).setCell ⟨w2.heap.size, 3, none⟩ (.int .i64 n2)).setCell ⟨w2.heap.size, 4, none⟩ (.complex .f64 X2 Y2)).setCell ⟨w2.heap.size, 5, none⟩ (.string S2)).setCell ⟨w2.heap.size, 6, none⟩ (.int .i64 a3)).setCell ⟨w2.heap.size, 7, none⟩ (.int .i64 b3)).setCell ⟨w2.heap.size, 8, none⟩ (.slice none 0 0)).setCell ⟨w2.heap.size, 9, none⟩ (.int .i64 z)).setCell ⟨w2.heap.size, 10, none⟩ (.int .i64 e3) = W7 at *
                clear O12
                obtain ⟨u0, u1, u2, u3, u4, u5, u6, u7, u8, u9, u10⟩ := Q12.eleven
                obtain ⟨z0, z1, z2, z3, z4, z5, z6⟩ := Q4.seven
                have zf := Q4.free
                obtain ⟨y0, y1, y2, y3, y4, y5, y6⟩ := Q7.seven
                go_region
                go_wp2_with fail
                obtain ⟨B7, O7⟩ := put7 (v0 := (.int .i64 0)) (v1 := (.int .i64 0)) (v2 := (.complex .f64 0 0)) (v3 := (.string ⟨#[]⟩)) (v4 := (.int .i64 0)) (v5 := (.int .i64 0)) (v6 := (.slice none 0 0)) Q4 (Eq.refl _)
                clear u0 u1 u2 u3 u4 u5 u6 u7 u8 u9 u10 z0 z1 z2 z3 z4 z5 z6 zf y0 y1 y2 y3 y4 y5 y6
                generalize ((((((W7.setCell ⟨w.heap.size, 0, none⟩ (.int .i64 0)).setCell ⟨w.heap.size, 1, none⟩ (.int .i64 0)).setCell ⟨w.heap.size, 2, none⟩ (.complex .f64 0 0)).setCell ⟨w.heap.size, 3, none⟩ (.string ⟨#[]⟩)).setCell ⟨w.heap.size, 4, none⟩ (.int .i64 0)).setCell ⟨w.heap.size, 5, none⟩ (.int .i64 0)).setCell ⟨w.heap.size, 6, none⟩ (.slice none 0 0) = W8 at *
                have B8 := B7.drew
                have O8 := (QN.trans O7 (fun b hb => .inr (by rw [List.mem_singleton.1 hb]; omega))).drew
                generalize W8.drew = W9 at *
                obtain ⟨z0, z1, z2, z3, z4, z5, z6⟩ := B8.seven
                exact bodyPost_ret (v := .tuple #[.agg Z7, .int .i64 0, .int .i64 z]) (by simp [results, Tryz.results19, go_sem, z0, z1, z2, z3, z4, z5, z6]) rfl ⟨.inr ⟨z, rfl, HR2.out⟩, O8⟩
              · subst hk3
                have g4 : ((1 : Int) == 1) = true := rfl
                have g5 : ((1 : Int) != 1) = false := rfl
                have g6 : (sg2 == 93) = false := beq_eq_false_iff_ne.2 hk4
                have g7 : (sg2 != 44) = true := bne_iff_ne.2 hk5
                clear hk4 hk5
                go_wp2_with fail
                obtain ⟨Q12, O12⟩ := put11 (v0 := (.int .i64 1)) (v1 := (.int .u8 sg2)) (v2 := (.int .i64 k2)) (v3 := (.int .i64 n2)) (v4 := (.complex .f64 X2 Y2)) (v5 := (.string S2)) (v6 := (.int .i64 a3)) (v7 := (.int .i64 b3)) (v8 := (.slice none 0 0)) (v9 := (.int .i64 z)) (v10 := (.int .i64 e3)) P12.out (Eq.refl _)
                have Q4 := P4.out.only O12 (by simp; omega)
                have Q7 := P7.out.only O12 (by simp; omega)
                have Q9 := P9.out.only O12 (by simp; omega)
                have QO := PO.out.only O12 (fun b hb => .inl (by rw [List.mem_singleton.1 hb]; omega))
                have QN := PN.out.trans O12 (fun b hb => .inr (by rw [List.mem_singleton.1 hb]; omega))
                clear u0 u1 u2 u3 u4 u5 u6 u7 u8 u9 u10 uf z0 z1 z2 z3 z4 z5 z6 zf x0 x1 x2 x3 x4 x5 x6 y0 y1 y2 y3 y4 y5 y6
                generalize ((((((((((w6.setCell ⟨w2.heap.size, 0, none⟩ (.int .i64 1)).setCell ⟨w2.heap.size, 1, none⟩ (.int .u8 sg2)).setCell ⟨w2.heap.size, 2, none⟩ (.int .i64 k2)).setCell ⟨w2.heap.size, 3, none⟩ (.int .i64 n2)).setCell ⟨w2.heap.size, 4, none⟩ (.complex .f64 X2 Y2)).setCell ⟨w2.heap.size, 5, none⟩ (.string S2)).setCell ⟨w2.heap.size, 6, none⟩ (.int .i64 a3)).setCell ⟨w2.heap.size, 7, none⟩ (.int .i64 b3)).setCell ⟨w2.heap.size, 8, none⟩ (.slice none 0 0)).setCell ⟨w2.heap.size, 9, none⟩ (.int .i64 z)).setCell ⟨w2.heap.size, 10, none⟩ (.int .i64 e3) = W7 at *
                clear O12
                obtain ⟨u0, u1, u2, u3, u4, u5, u6, u7, u8, u9, u10⟩ := Q12.eleven
                obtain ⟨z0, z1, z2, z3, z4, z5, z6⟩ := Q4.seven
                have zf := Q4.free
                obtain ⟨y0, y1, y2, y3, y4, y5, y6⟩ := Q7.seven
                go_region
                go_wp2_with fail
                obtain ⟨B7, O7⟩ := put7 (v0 := (.int .i64 0)) (v1 := (.int .i64 0)) (v2 := (.complex .f64 0 0)) (v3 := (.string ⟨#[]⟩)) (v4 := (.int .i64 0)) (v5 := (.int .i64 0)) (v6 := (.slice none 0 0)) Q4 (Eq.refl _)
                clear u0 u1 u2 u3 u4 u5 u6 u7 u8 u9 u10 z0 z1 z2 z3 z4 z5 z6 zf y0 y1 y2 y3 y4 y5 y6
                generalize ((((((W7.setCell ⟨w.heap.size, 0, none⟩ (.int .i64 0)).setCell ⟨w.heap.size, 1, none⟩ (.int .i64 0)).setCell ⟨w.heap.size, 2, none⟩ (.complex .f64 0 0)).setCell ⟨w.heap.size, 3, none⟩ (.string ⟨#[]⟩)).setCell ⟨w.heap.size, 4, none⟩ (.int .i64 0)).setCell ⟨w.heap.size, 5, none⟩ (.int .i64 0)).setCell ⟨w.heap.size, 6, none⟩ (.slice none 0 0) = W8 at *
                have B8 := B7.drew
                have O8 := (QN.trans O7 (fun b hb => .inr (by rw [List.mem_singleton.1 hb]; omega))).drew
                generalize W8.drew = W9 at *
                obtain ⟨z0, z1, z2, z3, z4, z5, z6⟩ := B8.seven
                exact bodyPost_ret (v := .tuple #[.agg Z7, .int .i64 0, .int .i64 z]) (by simp [results, Tryz.results19, go_sem, z0, z1, z2, z3, z4, z5, z6]) rfl ⟨.inr ⟨z, rfl, HR2.out⟩, O8⟩
        · obtain ⟨z0, z1, z2, z3, z4, z5, z6⟩ := M4.out.seven
          have zf := M4.out.free
          obtain ⟨x0, x1, x2, x3, x4, x5, x6⟩ := M7.out.seven
          have L4' := M4.out.lt
          have L7' := M7.out.lt
          have HRT := Lib.hid hrt
          have HRE : Hid (∀ stk, run s (.go stk 0) i = .error bad) := Lib.hid (fun stk => by rw [HRU.out, HRT.out])
          clear hrt
          go_wp2_with fail
          obtain ⟨B7, O7⟩ := put7 (v0 := (.int .i64 0)) (v1 := (.int .i64 0)) (v2 := (.complex .f64 0 0)) (v3 := (.string ⟨#[]⟩)) (v4 := (.int .i64 0)) (v5 := (.int .i64 0)) (v6 := (.slice none 0 0)) M4.out (Eq.refl _)
          clear z0 z1 z2 z3 z4 z5 z6 zf x0 x1 x2 x3 x4 x5 x6
          generalize ((((((w3.setCell ⟨w.heap.size, 0, none⟩ (.int .i64 0)).setCell ⟨w.heap.size, 1, none⟩ (.int .i64 0)).setCell ⟨w.heap.size, 2, none⟩ (.complex .f64 0 0)).setCell ⟨w.heap.size, 3, none⟩ (.string ⟨#[]⟩)).setCell ⟨w.heap.size, 4, none⟩ (.int .i64 0)).setCell ⟨w.heap.size, 5, none⟩ (.int .i64 0)).setCell ⟨w.heap.size, 6, none⟩ (.slice none 0 0) = W8 at *
          have B8 := B7.alloc (.cells Z7 27)
          have O8 := (MN.out.trans O7 (fun b hb => .inr (by rw [List.mem_singleton.1 hb]; omega))).alloc (.cells Z7 27)
          generalize W8.alloc (.cells Z7 27) = W9 at *
          obtain ⟨z0, z1, z2, z3, z4, z5, z6⟩ := B8.seven
          exact bodyPost_ret (v := .tuple #[.agg Z7, .int .i64 0, .int .i64 bad]) (by simp [results, Tryz.results19, go_sem, z0, z1, z2, z3, z4, z5, z6]) rfl ⟨.inr ⟨bad, rfl, HRE.out⟩, O8⟩
end Go.Proofs.YtlpafnibcmcjgaaGreatDoor
