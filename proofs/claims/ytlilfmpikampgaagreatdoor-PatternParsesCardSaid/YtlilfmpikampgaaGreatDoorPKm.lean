/- The program's Match of {ping, $0} and {ping, 5}, walked: all, matches, match, Match. -/
import Derived.Test.YtlilfmpikampgaaGreatDoorPKl
import Derived.Test.YtlilfmpikampgaaGreatDoorPH3
import Derived.Test.YtlilfmpikampgaaGreatDoorPMe
namespace Go.Proofs.YtlilfmpikampgaaGreatDoor
open Go.RowKit

/-- The matcher, so many patterns on. -/
def MSt (mb j : Nat) (w : World) : Prop := if j < 2 then Bk w mb 91 #[.slice none 0 0] else Bound w mb
theorem Bound.same {w w' : World} {mb : Nat} (h : Bound w mb) (o : Only [] w w') : Bound w' mb := by
  obtain ⟨g, c, h1, h2, h3⟩ := h
  exact ⟨g, c, h1.only o (by simp), Row.only h2 o (by simp), h3⟩
theorem MSt.same {w w' : World} {mb j : Nat} (h : MSt mb j w) (o : Only [] w w') : MSt mb j w' := by
  unfold MSt at h ⊢
  split
  · rename_i hj
    rw [if_pos hj] at h
    exact h.only o (by simp)
  · rename_i hj
    rw [if_neg hj] at h
    exact h.same o
abbrev lPat : List QT := [.term tPing, .var 0]
abbrev lTrm : List T := [tPing, tFive]
def MEl (mb j : Nat) (u : QT) (x : T) : Prop := ∀ W, MSt mb j W → Calls Tryz.prog 44 #[.pointer (some ⟨mb, 0, none⟩), .agg #[.int .i64 u.k, .int .i64 u.n, .int .i64 u.t.k, .int .i64 u.t.n, .complex .f64 u.t.x u.t.y, .string u.t.S, .int .i64 u.t.a, .int .i64 u.t.b, .slice none 0 0, .slice none 0 0, .slice none 0 0], .agg #[.int .i64 x.k, .int .i64 x.n, .complex .f64 x.x x.y, .string x.S, .int .i64 x.a, .int .i64 x.b, .slice none 0 0]] W fun e w' => e = .returned (.bool true) ∧ MSt mb (j + 1) w' ∧ Only [mb] W w'
theorem MEl.use {mb j : Nat} {u : QT} {x : T} (h : MEl mb j u x) (W : World) (hW : MSt mb j W) : Calls Tryz.prog 44 #[.pointer (some ⟨mb, 0, none⟩), .agg #[.int .i64 u.k, .int .i64 u.n, .int .i64 u.t.k, .int .i64 u.t.n, .complex .f64 u.t.x u.t.y, .string u.t.S, .int .i64 u.t.a, .int .i64 u.t.b, .slice none 0 0, .slice none 0 0, .slice none 0 0], .agg #[.int .i64 x.k, .int .i64 x.n, .complex .f64 x.x x.y, .string x.S, .int .i64 x.a, .int .i64 x.b, .slice none 0 0]] W fun e w' => e = .returned (.bool true) ∧ MSt mb (j + 1) w' ∧ Only [mb] W w' := h W hW
theorem mEl_0 (mb : Nat) : MEl mb 0 (.term tPing) tPing := fun W h => by
  have h0 : Bk W mb 91 #[.slice none 0 0] := h
  exact (match_leaf mb W).mono fun e w' ⟨h1, h2⟩ => ⟨h1, h0.only h2 (by simp), h2.more (by simp)⟩
theorem mEl_1 (mb : Nat) : MEl mb 1 (.var 0) tFive := fun W h => by
  have h0 : Bk W mb 91 #[.slice none 0 0] := h
  exact (match_var mb W h0).mono fun e w' ⟨h1, h2, h3⟩ => ⟨h1, h2, h3⟩
theorem mEl_any (mb j : Nat) (hj : j < lPat.length) (hj2 : j < lTrm.length) : MEl mb j (lPat[j]'hj) (lTrm[j]'hj2) := by
  match j, hj, hj2 with
  | 0, _, _ => exact mEl_0 mb
  | 1, _, _ => exact mEl_1 mb
  | n + 2, h, _ => exact absurd (show n + 2 < 2 from h) (by omega)
theorem leaf_pat (j : Nat) (hj : j < lPat.length) : ∀ k l r, lPat[j]'hj ≠ .seq k l r := by
  match j, hj with
  | 0, _ => intro k l r e; cases e
  | 1, _ => intro k l r e; cases e
  | n + 2, h => exact absurd (show n + 2 < 2 from h) (by omega)
theorem leaf_trm (j : Nat) (hj : j < lTrm.length) : ∀ k l, lTrm[j]'hj ≠ .tup k l := by
  match j, hj with
  | 0, _ => intro k l e; cases e
  | 1, _ => intro k l e; cases e
  | n + 2, h => exact absurd (show n + 2 < 2 from h) (by omega)
set_option maxRecDepth 20000 in
set_option maxHeartbeats 8000000 in
theorem match_all (mb : Nat) (A A2 : Option Addr) (c c2 : Nat) (F F2 : Nat → Prop) (w : World) (hm : MSt mb 0 w) (hq1 : QL w F lPat (.slice A 2 c)) (hq2 : TV w F2 tBoth (.slice A2 2 c2)) (hf : ∀ b, F b → b ≠ mb) (hf2 : ∀ b, F2 b → b ≠ mb) :
    Calls Tryz.prog 65 #[.pointer (some ⟨mb, 0, none⟩), .slice A 2 c, .slice A2 2 c2] w fun e w' => e = .returned (.bool true) ∧ Bound w' mb ∧ Only [mb] w w' := by
  have rs := store_com
  obtain ⟨A', cap, hv, _, _, hr⟩ := hq1
  injection hv with hv1 _ hv2
  subst hv1 hv2
  simp only [TV] at hq2
  obtain ⟨A2', cap2, hv, _, _, hr2⟩ := hq2
  injection hv with hv1 _ hv2
  subst hv1 hv2
  rcases hr with hr | ⟨bl, off, rfl, hb, hfb, h1⟩
  · cases hr
  rcases hr2 with hr2 | ⟨bl2, off2, rfl, hb2, hfb2, h2⟩
  · cases hr2
  have hn := hf _ hfb
  have hn2 := hf2 _ hfb2
  have H1 := Lib.hid h1
  have H2 := Lib.hid h2
  have HM := Lib.hid hm
  clear h1 h2 hm
  go_enter Tryz.func65, Tryz.ntmps65
  go_wp2_with fail
  go_loopw [11] (fun v wr => ∃ j : Nat, v = .int .i64 j ∧ j ≤ 2 ∧ MSt mb j wr ∧ Only [mb] w wr) (fun v _ => 2 - (intOf v).toNat)
  case atStart => exact ⟨0, rfl, by omega, HM.out, Only.refl _ _⟩
  case round =>
    obtain ⟨j, rfl, hj, hms, hor⟩ := hrel
    have HOr := Lib.hid hor
    have HMs := Lib.hid hms
    clear hor hms
    by_cases hjl : j < 2
    · have hl1 : j < lPat.length := hjl
      have hl2 : j < lTrm.length := hjl
      obtain ⟨sl, sr, htv, hcs⟩ := (QVs.iff.1 H1.out) j (lPat[j]'hl1) (List.getElem?_eq_getElem hl1)
      obtain ⟨rfl, rfl⟩ := (QV.leaf (leaf_pat j hl1)).1 htv
      obtain ⟨sx, htx, hcx⟩ := (TVs.iff.1 H2.out) j (lTrm[j]'hl2) (List.getElem?_eq_getElem hl2)
      obtain rfl := (TV.leaf (leaf_trm j hl2)).1 htx
      have EL := Lib.hid (show ∀ w', Only [] wr w' → ∀ q v, ((lPat[j]'hl1).cs (.slice none 0 0) (.slice none 0 0))[q]? = some v → w'.cell? ⟨bl, off + j * 11 + q, none⟩ = some v from fun w' o q v hv => by
        have h1 : wr.cell? ⟨bl, off + j * 11 + q, none⟩ = some v := (HOr.out.cell (p := ⟨bl, off + j * 11 + q, none⟩) hb (by simpa using hn)).trans (by rw [Nat.mul_comm j 11]; exact hcs q v hv)
        exact (o.cell (p := ⟨bl, off + j * 11 + q, none⟩) (Nat.lt_of_lt_of_le hb HOr.out.size) (by simp)).trans h1)
      have EX := Lib.hid (show ∀ w', Only [] wr w' → ∀ q v, ((lTrm[j]'hl2).cs (.slice none 0 0))[q]? = some v → w'.cell? ⟨bl2, off2 + j * 7 + q, none⟩ = some v from fun w' o q v hv => by
        have h1 : wr.cell? ⟨bl2, off2 + j * 7 + q, none⟩ = some v := (HOr.out.cell (p := ⟨bl2, off2 + j * 7 + q, none⟩) hb2 (by simpa using hn2)).trans (by rw [Nat.mul_comm j 7]; exact hcx q v hv)
        exact (o.cell (p := ⟨bl2, off2 + j * 7 + q, none⟩) (Nat.lt_of_lt_of_le hb2 HOr.out.size) (by simp)).trans h1)
      have HE := Lib.hid (mEl_any mb j hl1 hl2)
      clear hcs htv hcx htx
      generalize lPat[j]'hl1 = u at HE EL
      generalize lTrm[j]'hl2 = x at HE EX
      obtain ⟨r0, r1, r2, r3, r4, r5, r6, r7, r8, r9, r10⟩ := qcs_eleven (EL.out wr (Only.refl _ _))
      have o1 : Only [] wr (wr.alloc (.cells (pcs u.k u.n u.t (.slice none 0 0) (.slice none 0 0)) 30)) := (Only.refl [] wr).alloc _
      obtain ⟨s0, s1, s2, s3, s4, s5, s6⟩ := cs_seven _ _ (EX.out _ o1)
      have BP := Lib.hid (Bk.made wr 30 (pcs u.k u.n u.t (.slice none 0 0) (.slice none 0 0)))
      obtain ⟨t0, t1, t2, t3, t4, t5, t6, t7, t8, t9, t10⟩ := BP.out.eleven
      have O1 := Lib.hid o1
      clear o1
      have hnb : bl2 ≠ wr.heap.size := by have := HOr.out.size; omega
      go_wp2_with fail
      refine wp_region_quiet_then 6 (by kernel_rfl) (by kernel_rfl) ?_
      simp only [List.take_succ_cons, List.take_zero, List.drop_succ_cons, List.drop_zero]
      repeat (go_big_quiet_step (fail))
      refine wpQuiet_nil ?_
      intro q
      go_wp2_with fail
      (with_reducible refine (HE.out.use _ (HMs.out.same (O1.out.drewN q))).mono ?_)
      rintro e w2 ⟨rfl, m2, o2⟩
      have M2 := Lib.hid m2
      have O2 := Lib.hid (HOr.out.trans (((O1.out.drewN q).more (T := [mb]) (by simp)).trans o2 (fun i hi => .inl hi)) (fun i hi => .inl hi))
      clear m2 o2
      go_wp2_with fail
      go_roundw
      case rel => exact ⟨j + 1, by go_num, by omega, M2.out, O2.out⟩
      case measure => simp [intOf]; omega
    · obtain rfl : j = 2 := by omega
      clear hj hjl
      go_wp2_with fail
      go_ret
      exact ⟨rfl, HMs.out, HOr.out⟩
set_option maxRecDepth 20000 in
set_option maxHeartbeats 8000000 in
theorem matches_both (mb : Nat) (A A2 B : Option Addr) (c c2 d : Nat) (F F2 : Nat → Prop) (w : World) (hm : MSt mb 0 w) (hq1 : QL w F lPat (.slice A 2 c)) (hq2 : TV w F2 tBoth (.slice A2 2 c2)) (hf : ∀ b, F b → b ≠ mb) (hf2 : ∀ b, F2 b → b ≠ mb) :
    Calls Tryz.prog 44 #[.pointer (some ⟨mb, 0, none⟩), .agg (pcs 5 0 .zero (.slice A 2 c) (.slice B 0 d)), .agg (tcs 8 0 0 0 ⟨#[]⟩ 0 0 (.slice A2 2 c2))] w fun e w' => e = .returned (.bool true) ∧ Bound w' mb ∧ Only [mb] w w' := by
  have rs := store_com
  have O0 := Lib.hid (((Only.refl [] w).alloc (.cells (pcs 5 0 .zero (.slice A 2 c) (.slice B 0 d)) 30)).alloc (.cells (tcs 8 0 0 0 ⟨#[]⟩ 0 0 (.slice A2 2 c2)) 27))
  have HA := Lib.hid (match_all mb A A2 c c2 F F2 _ (hm.same O0.out) (hq1.same O0.out) (hq2.same O0.out) hf hf2)
  clear hm hq1 hq2 hf hf2
  go_enter Tryz.func44, Tryz.ntmps44
  go_wp2_with fail
  (with_reducible refine (HA.out).mono ?_)
  rintro e w1 ⟨rfl, b1, o1⟩
  have B1 := Lib.hid b1
  have O1 := Lib.hid ((O0.out.more (T := [mb]) (by simp)).trans o1 (fun i hi => .inl hi))
  clear b1 o1
  go_wp2_with fail
  go_ret
  exact ⟨rfl, B1.out, O1.out⟩
set_option maxRecDepth 20000 in
set_option maxHeartbeats 8000000 in
theorem match_both (A A2 B : Option Addr) (c c2 d : Nat) (F F2 : Nat → Prop) (w : World) (hq1 : QL w F lPat (.slice A 2 c)) (hq2 : TV w F2 tBoth (.slice A2 2 c2)) (hf : ∀ b, F b → b < w.heap.size) (hf2 : ∀ b, F2 b → b < w.heap.size) :
    Calls Tryz.prog 28 #[.agg (pcs 5 0 .zero (.slice A 2 c) (.slice B 0 d)), .agg (tcs 8 0 0 0 ⟨#[]⟩ 0 0 (.slice A2 2 c2))] w fun e w' => (∃ g cg, e = .returned (.tuple #[.slice (some ⟨g, 0, none⟩) 1 cg, .bool true]) ∧ w'.ownsRow 0 53 8 (.slice (some ⟨g, 0, none⟩) 1 cg) 1 bcell.toList) ∧ Only [] w w' := by
  have rs := store_com
  obtain ⟨W5, hW5⟩ : ∃ W5, W5 = ((w.alloc (.cells (pcs 5 0 .zero (.slice A 2 c) (.slice B 0 d)) 30)).alloc (.cells (tcs 8 0 0 0 ⟨#[]⟩ 0 0 (.slice A2 2 c2)) 27)).alloc (.cells #[.slice none 0 0] 91) := ⟨_, rfl⟩
  have O0 := Lib.hid (show Only [] w W5 from hW5 ▸ (((Only.refl [] w).alloc _).alloc _).alloc _)
  have BM := Lib.hid (show Bk W5 (w.heap.size + 1 + 1) 91 #[.slice none 0 0] from hW5 ▸ Bk.madeAt (by simp))
  have HA := Lib.hid (matches_both (w.heap.size + 1 + 1) A A2 B c c2 d F F2 W5 (show MSt _ 0 W5 from BM.out) (hq1.same O0.out) (hq2.same O0.out) (fun b hb => by have := hf b hb; omega) (fun b hb => by have := hf2 b hb; omega))
  rw [hW5] at HA O0
  clear hq1 hq2 hf hf2 BM hW5
  go_enter Tryz.func28, Tryz.ntmps28
  go_wp2_with fail
  (with_reducible refine (HA.out).mono ?_)
  rintro e w1 ⟨rfl, ⟨g, cg, b1, r1, -⟩, o1⟩
  have m0 := b1.cell0 (i := 0) rfl
  have R1 := Lib.hid r1
  have O1 := Lib.hid (O0.out.trans o1 (fun i hi => .inr (by rw [List.mem_singleton.1 hi]; omega)))
  clear b1 r1 o1
  go_wp2_with fail
  exact bodyPost_ret (v := .tuple #[.slice (some ⟨g, 0, none⟩) 1 cg, .bool true]) (by simp [results, Tryz.results28, go_sem]) rfl ⟨⟨g, cg, rfl, R1.out⟩, O1.out⟩
set_option maxRecDepth 20000 in
set_option maxHeartbeats 8000000 in
theorem pmatch_both (sl sr : Value) (A2 : Option Addr) (c2 : Nat) (F F2 : Nat → Prop) (w : World) (hq1 : QV w F pBoth sl sr) (hq2 : TV w F2 tBoth (.slice A2 2 c2)) (hf : ∀ b, F b → b < w.heap.size) (hf2 : ∀ b, F2 b → b < w.heap.size) (hk : KN w) (hgs : 0 < w.heap.size) :
    Calls Tryz.prog 18 #[.agg (pcs 5 0 .zero sl sr), .agg (tcs 8 0 0 0 ⟨#[]⟩ 0 0 (.slice A2 2 c2))] w fun e w' => (∃ g cg, e = .returned (.tuple #[.slice (some ⟨g, 0, none⟩) 1 cg, .bool true, .int .i64 0]) ∧ w'.ownsRow 0 53 8 (.slice (some ⟨g, 0, none⟩) 1 cg) 1 bcell.toList) ∧ Only [] w w' := by
  have rs := store_com
  obtain ⟨hl, hr⟩ := QV.seq.1 hq1
  obtain ⟨A, c, rfl, _⟩ := id hl
  obtain ⟨B, d, rfl, _⟩ := id hr
  have hl2 : QL w F lPat (.slice A 2 c) := hl
  have O0 := Lib.hid (((Only.refl [] w).alloc (.cells (pcs 5 0 .zero (.slice A 2 c) (.slice B 0 d)) 30)).alloc (.cells (tcs 8 0 0 0 ⟨#[]⟩ 0 0 (.slice A2 2 c2)) 27))
  have B1 := Lib.hid ((Bk.made w 30 (pcs 5 0 .zero (.slice A 2 c) (.slice B 0 d))).alloc (.cells (tcs 8 0 0 0 ⟨#[]⟩ 0 0 (.slice A2 2 c2)) 27))
  have B2 := Lib.hid (Bk.madeAt (w := w.alloc (.cells (pcs 5 0 .zero (.slice A 2 c) (.slice B 0 d)) 30)) (t := 27) (cs := tcs 8 0 0 0 ⟨#[]⟩ 0 0 (.slice A2 2 c2)) (b := w.heap.size + 1) (by simp))
  have HC := Lib.hid (show ∀ W, Only [] w W → Calls Tryz.prog 11 #[.agg (pcs 5 0 .zero (.slice A 2 c) (.slice B 0 d)), .int .i64 32] W fun e w' => e = .returned (.int .i64 0) ∧ Only [] W w' from fun W o => by
    have := qcheck_any pBoth qgood_both (.slice A 2 c) (.slice B 0 d) F W (hq1.same o) (fun b hb => Nat.lt_of_lt_of_le (hf b hb) o.size) (hk.only hgs o (by simp)) (Nat.lt_of_lt_of_le hgs o.size)
    rw [qchk_both] at this
    exact this)
  have HD := Lib.hid (show ∀ W, Only [] w W → Calls Tryz.prog 27 #[.agg (tcs 8 0 0 0 ⟨#[]⟩ 0 0 (.slice A2 2 c2))] W fun e w' => e = .returned (.int .i64 0) ∧ Only [] W w' from fun W o => by
    have := check_any tBoth good_both (.slice A2 2 c2) F2 W (hq2.same o) (fun b hb => Nat.lt_of_lt_of_le (hf2 b hb) o.size)
    rw [chk_both] at this
    exact this)
  have HM := Lib.hid (fun W (o : Only [] w W) => match_both A A2 B c c2 d F F2 W (hl2.same o) (hq2.same o) (fun b hb => Nat.lt_of_lt_of_le (hf b hb) o.size) (fun b hb => Nat.lt_of_lt_of_le (hf2 b hb) o.size))
  clear hq1 hq2 hf hf2 hk hl hr hl2
  change Calls Tryz.prog 18 #[.agg (pcs 5 0 .zero (.slice A 2 c) (.slice B 0 d)), .agg (tcs 8 0 0 0 ⟨#[]⟩ 0 0 (.slice A2 2 c2))] w _
  go_enter Tryz.func18, Tryz.ntmps18
  go_wp2_with fail
  (with_reducible refine (HC.out _ O0.out).mono ?_)
  rintro e w1 ⟨rfl, o1⟩
  have O1 := Lib.hid (O0.out.trans o1 (by simp))
  have C1 := Lib.hid (B1.out.only o1 (by simp))
  have C2 := Lib.hid (B2.out.only o1 (by simp))
  obtain ⟨y0, y1, y2, y3, y4, y5, y6⟩ := C2.out.seven
  clear o1
  go_wp2_with fail
  (with_reducible refine (HD.out _ O1.out).mono ?_)
  rintro e w2 ⟨rfl, o2⟩
  have O2 := Lib.hid (O1.out.trans o2 (by simp))
  have D1 := Lib.hid (C1.out.only o2 (by simp))
  have D2 := Lib.hid (C2.out.only o2 (by simp))
  clear o2 y0 y1 y2 y3 y4 y5 y6
  obtain ⟨z0, z1, z2, z3, z4, z5, z6, z7, z8, z9, z10⟩ := D1.out.eleven
  obtain ⟨y0, y1, y2, y3, y4, y5, y6⟩ := D2.out.seven
  go_wp2_with fail
  (with_reducible refine (HM.out _ O2.out).mono ?_)
  rintro e w3 ⟨⟨g, cg, rfl, r3⟩, o3⟩
  have O3 := Lib.hid (O2.out.trans o3 (by simp))
  have R3 := Lib.hid r3
  clear o3 r3
  go_wp2_with fail
  exact bodyPost_ret (v := .tuple #[.slice (some ⟨g, 0, none⟩) 1 cg, .bool true, .int .i64 0]) (by simp [results, Tryz.results18, go_sem]) rfl ⟨⟨g, cg, rfl, R3.out⟩, O3.out⟩
end Go.Proofs.YtlilfmpikampgaaGreatDoor
