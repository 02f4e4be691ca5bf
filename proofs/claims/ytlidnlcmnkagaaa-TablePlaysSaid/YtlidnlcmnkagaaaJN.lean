/- The document's table: Name. -/
import Derived.Test.YtlidnlcmnkagaaaJM
namespace Go.Proofs.Ytlidnlcmnkagaaa
open Go.RowKit
set_option maxRecDepth 20000

set_option maxHeartbeats 16000000 in
theorem rname_any {w : World} {v1 v2 v3 : Value} {T : List Pl} (r : RT w v1 v2 v3 T) (hl : T.length ≤ 256) (p : Pd) (s : ByteArray) (hs : s.size ≤ 140737488351232) : Calls Try.prog 45 #[.agg (rtC T.length v1 v2 v3), .agg p.cs, .string s] w (RFreeE w T.length (nameF T p s)) := by
  obtain ⟨A1, c1, A2, c2, A3, c3, rfl, rfl, rfl⟩ := r.forms0
  obtain ⟨W0, hW0⟩ : ∃ W0, W0 = ((w.alloc (.cells (rtC T.length (.slice A1 T.length c1) (.slice A2 T.length c2) (.slice A3 T.length c3)) 30)).alloc (.cells p.cs 38)).alloc (.cells rt0 30) := ⟨_, rfl⟩
  have BT : Hid (Bk W0 w.heap.size 30 (rtC T.length (.slice A1 T.length c1) (.slice A2 T.length c2) (.slice A3 T.length c3))) := Lib.hid (by rw [hW0]; exact ((Bk.made w _ _).alloc _).alloc _)
  have BP : Hid (Bk W0 (w.heap.size + 1) 38 p.cs) := Lib.hid (by rw [hW0]; exact (Bk.newAt (by simp)).alloc _)
  have BR : Hid (Bk W0 (w.heap.size + 1 + 1) 30 rt0) := Lib.hid (by rw [hW0]; exact Bk.newAt (by simp))
  have O : Hid (Only [] w W0) := Lib.hid (by rw [hW0]; exact (((Only.refl [] w).alloc _).alloc _).alloc _)
  have R : Hid (RT W0 (.slice A1 T.length c1) (.slice A2 T.length c2) (.slice A3 T.length c3) T) := Lib.hid (r.only O.out rfl)
  have KA := Lib.hid (atom_any s W0 hs)
  have LA : w.heap.size ≤ w.heap.size + 1 + 1 := by omega
  have KI0 := Lib.hid (ris_any R.out p)
  have t0 := BT.out.cell0 (i := 0) rfl
  have t1 := BT.out.cell0 (i := 1) rfl
  have t2 := BT.out.cell0 (i := 2) rfl
  have t3 := BT.out.cell0 (i := 3) rfl
  have r0 := BR.out.cell0 (i := 0) rfl
  have r1 := BR.out.cell0 (i := 1) rfl
  have r2 := BR.out.cell0 (i := 2) rfl
  have r3 := BR.out.cell0 (i := 3) rfl
  have rf := BR.out.free
  obtain ⟨p0, p1⟩ := BP.out.pid
  clear r
  cases ha : atomF s with
  | false =>
    have EF := Lib.hid (show nameF T p s = (T, 1) by unfold nameF; rw [ha]; rfl)
    rw [ha] at KA
    clear ha
    go_enter Try.func45, Try.ntmps45
    go_wp2_with fail
    rw [← hW0]
    clear hW0
    (with_reducible refine KA.out.mono ?_)
    rintro e w1 ⟨rfl, rfl⟩
    go_wp2_with fail
    refine bodyPost_ret (v := .tuple #[.agg (rtC T.length (.slice A1 T.length c1) (.slice A2 T.length c2) (.slice A3 T.length c3)), .int .i64 1]) (by simp [results, Try.results45, go_sem, r0, r1, r2, r3]) rfl ?_
    rw [EF.out]
    have o4 := fun W => only4 W (w.heap.size + 1 + 1) (.int .i64 (T.length : Int)) (.slice A1 T.length c1) (.slice A2 T.length c2) (.slice A3 T.length c3)
    exact ⟨_, _, _, rfl, (R.out).onlyT (BR.out) (o4 _), (O.out).trans (o4 _) (by simp; omega)⟩
  | true =>
    rw [ha] at KA
    cases hf : findF T p with
    | none =>
      have EF := Lib.hid (show nameF T p s = (T, 3) by unfold nameF; rw [ha, hf]; rfl)
      rw [show isF T p = false from by unfold isF; rw [hf]; rfl] at KI0
      clear hf ha
      go_enter Try.func45, Try.ntmps45
      go_wp2_with fail
      rw [← hW0]
      clear hW0
      (with_reducible refine KA.out.mono ?_)
      rintro e w1 ⟨rfl, rfl⟩
      go_wp2_with fail
      (with_reducible refine KI0.out.mono ?_)
      rintro e w1 ⟨rfl, o1⟩
      have R1 := Lib.hid (R.out.only o1 rfl)
      have B1 := Lib.hid (BR.out.only o1 (by simp))
      have P1 := Lib.hid (BP.out.only o1 (by simp))
      have T1 := Lib.hid (BT.out.only o1 (by simp))
      have O1 := Lib.hid (O.out.trans o1 (by simp))
      have t0 := T1.out.cell0 (i := 0) rfl
      have t1 := T1.out.cell0 (i := 1) rfl
      have t2 := T1.out.cell0 (i := 2) rfl
      have t3 := T1.out.cell0 (i := 3) rfl
      have r0 := B1.out.cell0 (i := 0) rfl
      have r1 := B1.out.cell0 (i := 1) rfl
      have r2 := B1.out.cell0 (i := 2) rfl
      have r3 := B1.out.cell0 (i := 3) rfl
      have rf := B1.out.free
      clear o1
      go_wp2_with fail
      refine bodyPost_ret (v := .tuple #[.agg (rtC T.length (.slice A1 T.length c1) (.slice A2 T.length c2) (.slice A3 T.length c3)), .int .i64 3]) (by simp [results, Try.results45, go_sem, r0, r1, r2, r3]) rfl ?_
      rw [EF.out]
      have o4 := fun W => only4 W (w.heap.size + 1 + 1) (.int .i64 (T.length : Int)) (.slice A1 T.length c1) (.slice A2 T.length c2) (.slice A3 T.length c3)
      exact ⟨_, _, _, rfl, (R1.out).onlyT (B1.out) (o4 _), (O1.out).trans (o4 _) (by simp; omega)⟩
    | some x =>
      rw [show isF T p = true from by unfold isF; rw [hf]; rfl] at KI0
      have HNM := Lib.hid (show nameOfF T p = x.nm by unfold nameOfF; rw [hf])
      obtain ⟨h0, hx, -, -⟩ := find_some hf
      obtain ⟨pn, pg⟩ := p
      obtain ⟨k, rfl⟩ := Int.eq_ofNat_of_zero_le h0
      dsimp only at hx p0 p1
      rw [Int.toNat_natCast] at hx
      have hk := (List.getElem?_eq_some_iff.1 hx).1
      have HX := Lib.hid hx
      have pk : (k : Int) < (T.length : Int) := by omega
      cases hw : whereF T s with
      | some q =>
        have EF := Lib.hid (show nameF T ⟨k, pg⟩ s = (T, 141) by unfold nameF; rw [ha, hf]; simp [hw])
        have HW := Lib.hid hw
        clear hf ha hw hx
        go_enter Try.func45, Try.ntmps45
        go_wp2_with fail
        rw [← hW0]
        clear hW0
        (with_reducible refine KA.out.mono ?_)
        rintro e w1 ⟨rfl, rfl⟩
        go_wp2_with fail
        (with_reducible refine KI0.out.mono ?_)
        rintro e w1 ⟨rfl, o1⟩
        have R1 := Lib.hid (R.out.only o1 rfl)
        have B1 := Lib.hid (BR.out.only o1 (by simp))
        have P1 := Lib.hid (BP.out.only o1 (by simp))
        have T1 := Lib.hid (BT.out.only o1 (by simp))
        have O1 := Lib.hid (O.out.trans o1 (by simp))
        have t0 := T1.out.cell0 (i := 0) rfl
        have t1 := T1.out.cell0 (i := 1) rfl
        have t2 := T1.out.cell0 (i := 2) rfl
        have t3 := T1.out.cell0 (i := 3) rfl
        have r0 := B1.out.cell0 (i := 0) rfl
        have r1 := B1.out.cell0 (i := 1) rfl
        have r2 := B1.out.cell0 (i := 2) rfl
        have r3 := B1.out.cell0 (i := 3) rfl
        have rf := B1.out.free
        have KW := Lib.hid (rwhere_any R1.out hl s)
        clear o1
        go_wp2_with fail
        (with_reducible refine KW.out.mono ?_)
        rintro e w2 ⟨rfl, o2⟩
        rw [HW.out]
        simp only [whereE]
        have o2' := o2.alloc (.cells q.cs 38)
        have R2 := Lib.hid (R1.out.only o2' rfl)
        have B2 := Lib.hid (B1.out.only o2' (by simp))
        have P2 := Lib.hid (P1.out.only o2' (by simp))
        have T2 := Lib.hid (T1.out.only o2' (by simp))
        have O2 := Lib.hid (O1.out.trans o2' (by simp))
        have t0 := T2.out.cell0 (i := 0) rfl
        have t1 := T2.out.cell0 (i := 1) rfl
        have t2 := T2.out.cell0 (i := 2) rfl
        have t3 := T2.out.cell0 (i := 3) rfl
        have r0 := B2.out.cell0 (i := 0) rfl
        have r1 := B2.out.cell0 (i := 1) rfl
        have r2 := B2.out.cell0 (i := 2) rfl
        have r3 := B2.out.cell0 (i := 3) rfl
        have rf := B2.out.free
        obtain ⟨p0, p1⟩ := P2.out.pid
        clear o2 o2'
        go_wp2_with fail
        refine bodyPost_ret (v := .tuple #[.agg (rtC T.length (.slice A1 T.length c1) (.slice A2 T.length c2) (.slice A3 T.length c3)), .int .i64 141]) (by simp [results, Try.results45, go_sem, r0, r1, r2, r3]) rfl ?_
        rw [EF.out]
        have o4 := fun W => only4 W (w.heap.size + 1 + 1) (.int .i64 (T.length : Int)) (.slice A1 T.length c1) (.slice A2 T.length c2) (.slice A3 T.length c3)
        exact ⟨_, _, _, rfl, (R2.out).onlyT (B2.out) (o4 _), (O2.out).trans (o4 _) (by simp; omega)⟩
      | none =>
        have HW := Lib.hid hw
        by_cases hn : x.nm = E0b
        · have EF := Lib.hid (show nameF T ⟨k, pg⟩ s = (T.set k ⟨x.had, x.al, s⟩, 0) by unfold nameF; rw [ha, hf]; simp [hw, hn])
          have q1 : x.nm.toList.isEmpty = true := by rw [hn]; decide +kernel
          clear hf ha hw hx hn
          go_enter Try.func45, Try.ntmps45
          go_wp2_with fail
          rw [← hW0]
          clear hW0
          (with_reducible refine KA.out.mono ?_)
          rintro e w1 ⟨rfl, rfl⟩
          go_wp2_with fail
          (with_reducible refine KI0.out.mono ?_)
          rintro e w1 ⟨rfl, o1⟩
          have R1 := Lib.hid (R.out.only o1 rfl)
          have B1 := Lib.hid (BR.out.only o1 (by simp))
          have P1 := Lib.hid (BP.out.only o1 (by simp))
          have T1 := Lib.hid (BT.out.only o1 (by simp))
          have O1 := Lib.hid (O.out.trans o1 (by simp))
          have t0 := T1.out.cell0 (i := 0) rfl
          have t1 := T1.out.cell0 (i := 1) rfl
          have t2 := T1.out.cell0 (i := 2) rfl
          have t3 := T1.out.cell0 (i := 3) rfl
          have r0 := B1.out.cell0 (i := 0) rfl
          have r1 := B1.out.cell0 (i := 1) rfl
          have r2 := B1.out.cell0 (i := 2) rfl
          have r3 := B1.out.cell0 (i := 3) rfl
          have rf := B1.out.free
          have KW := Lib.hid (rwhere_any R1.out hl s)
          clear o1
          go_wp2_with fail
          (with_reducible refine KW.out.mono ?_)
          rintro e w2 ⟨rfl, o2⟩
          rw [HW.out]
          simp only [whereE]
          have o2' := o2.alloc (.cells P0.cs 38)
          have R2 := Lib.hid (R1.out.only o2' rfl)
          have B2 := Lib.hid (B1.out.only o2' (by simp))
          have P2 := Lib.hid (P1.out.only o2' (by simp))
          have T2 := Lib.hid (T1.out.only o2' (by simp))
          have O2 := Lib.hid (O1.out.trans o2' (by simp))
          have t0 := T2.out.cell0 (i := 0) rfl
          have t1 := T2.out.cell0 (i := 1) rfl
          have t2 := T2.out.cell0 (i := 2) rfl
          have t3 := T2.out.cell0 (i := 3) rfl
          have r0 := B2.out.cell0 (i := 0) rfl
          have r1 := B2.out.cell0 (i := 1) rfl
          have r2 := B2.out.cell0 (i := 2) rfl
          have r3 := B2.out.cell0 (i := 3) rfl
          have rf := B2.out.free
          obtain ⟨p0, p1⟩ := P2.out.pid
          clear o2 o2'
          have KN := Lib.hid (rnameOf_any R2.out ⟨k, pg⟩)
          go_wp2_with fail
          (with_reducible refine KN.out.mono ?_)
          rintro e w3 ⟨rfl, o3⟩
          rw [HNM.out]
          have R3 := Lib.hid (R2.out.only o3 rfl)
          have B3 := Lib.hid (B2.out.only o3 (by simp))
          have P3 := Lib.hid (P2.out.only o3 (by simp))
          have T3 := Lib.hid (T2.out.only o3 (by simp))
          have O3 := Lib.hid (O2.out.trans o3 (by simp))
          have t0 := T3.out.cell0 (i := 0) rfl
          have t1 := T3.out.cell0 (i := 1) rfl
          have t2 := T3.out.cell0 (i := 2) rfl
          have t3 := T3.out.cell0 (i := 3) rfl
          have r0 := B3.out.cell0 (i := 0) rfl
          have r1 := B3.out.cell0 (i := 1) rfl
          have r2 := B3.out.cell0 (i := 2) rfl
          have r3 := B3.out.cell0 (i := 3) rfl
          have rf := B3.out.free
          clear o3
          have KC := Lib.hid (rcopied_any (T.length : Int) R3.out.h R3.out.a R3.out.n (by simp; omega) (by simp; omega) (by simp; omega))
          go_wp2_with fail
          (with_reducible refine KC.out.mono ?_)
          rintro e w4 ⟨u1, u2, u3, rfl, ⟨h1, h2, h3⟩, o4⟩
          obtain ⟨d1, e1, f1⟩ := h1.some_ (by simp; omega)
          obtain ⟨d2, e2, f2⟩ := h2.some_ (by simp; omega)
          obtain ⟨d3, e3, f3⟩ := h3.some_ (by simp; omega)
          rw [List.length_map] at f1 f2 f3
          subst f1 f2 f3
          have O5 := Lib.hid ((O3.out.trans o4 (by simp)).alloc (.cells (rtC T.length (.slice (some ⟨d1, 0, none⟩) T.length e1) (.slice (some ⟨d2, 0, none⟩) T.length e2) (.slice (some ⟨d3, 0, none⟩) T.length e3)) 30))
          have bt5 := Bk.made w4 30 (rtC T.length (.slice (some ⟨d1, 0, none⟩) T.length e1) (.slice (some ⟨d2, 0, none⟩) T.length e2) (.slice (some ⟨d3, 0, none⟩) T.length e3))
          have br5 := (B3.out.only o4 (by simp)).alloc (.cells (rtC T.length (.slice (some ⟨d1, 0, none⟩) T.length e1) (.slice (some ⟨d2, 0, none⟩) T.length e2) (.slice (some ⟨d3, 0, none⟩) T.length e3)) 30)
          have bp5 := (P3.out.only o4 (by simp)).alloc (.cells (rtC T.length (.slice (some ⟨d1, 0, none⟩) T.length e1) (.slice (some ⟨d2, 0, none⟩) T.length e2) (.slice (some ⟨d3, 0, none⟩) T.length e3)) 30)
          have i5 := h1.alloc (.cells (rtC T.length (.slice (some ⟨d1, 0, none⟩) T.length e1) (.slice (some ⟨d2, 0, none⟩) T.length e2) (.slice (some ⟨d3, 0, none⟩) T.length e3)) 30)
          have a5 := h2.alloc (.cells (rtC T.length (.slice (some ⟨d1, 0, none⟩) T.length e1) (.slice (some ⟨d2, 0, none⟩) T.length e2) (.slice (some ⟨d3, 0, none⟩) T.length e3)) 30)
          have n5 := h3.alloc (.cells (rtC T.length (.slice (some ⟨d1, 0, none⟩) T.length e1) (.slice (some ⟨d2, 0, none⟩) T.length e2) (.slice (some ⟨d3, 0, none⟩) T.length e3)) 30)
          have hw4 : w.heap.size + 1 + 1 < w4.heap.size := by have h1 := B3.out.lt; have h2 := o4.size; omega
          have s3 := bt5.cell0 (i := 3) rfl
          have q0 := bp5.cell0 (i := 0) rfl
          have z2 := n5.at_ (nm_at HX.out) (j := 0) rfl (q := k) (by show k = k * 1 + 0; omega)
          have zf := n5.free_ k
          have K6 := Lib.hid (bt5.byRow n5 ks3 k (.string s))
          have R6 := Lib.hid (br5.byRow n5 ks3 k (.string s))
          have I6 := Lib.hid (i5.setRow n5 kis k (.string s))
          have A6 := Lib.hid (a5.setRow n5 kbs k (.string s))
          have N6 := Lib.hid (n5.put (j := 0) s (nm_at HX.out) (.string s) (by show 0 < 1; omega) rfl (q := k) (by show k = k * 1 + 0; omega))
          have hd3 : w3.heap.size ≤ d3 := (h3.block rfl).1
          have hO3 := O3.out.size
          have O6 := Lib.hid (O5.out.set (p := ⟨d3, k, none⟩) (.inr (by show w.heap.size ≤ d3; omega)) (.string s))
          have y0 := K6.out.cell0 (i := 0) rfl
          have y1 := K6.out.cell0 (i := 1) rfl
          have y2 := K6.out.cell0 (i := 2) rfl
          have y3 := K6.out.cell0 (i := 3) rfl
          have r0 := R6.out.cell0 (i := 0) rfl
          have r1 := R6.out.cell0 (i := 1) rfl
          have r2 := R6.out.cell0 (i := 2) rfl
          have r3 := R6.out.cell0 (i := 3) rfl
          have rf := R6.out.free
          clear KC bt5 br5 bp5 i5 a5 n5 h2 h3 o4 h1
          go_wp2_with fail
          refine bodyPost_ret (v := .tuple #[.agg (rtC T.length (.slice (some ⟨d1, 0, none⟩) T.length e1) (.slice (some ⟨d2, 0, none⟩) T.length e2) (.slice (some ⟨d3, 0, none⟩) T.length e3)), .int .i64 0]) (by simp [results, Try.results45, go_sem, r0, r1, r2, r3]) rfl ?_
          rw [EF.out]
          have RT5 := RT.turned (T := T) (k := k) ⟨x.had, x.al, s⟩ (by rw [set_same (had_at HX.out)]; exact I6.out) (by rw [set_same (al_at HX.out)]; exact A6.out) N6.out
          have o6 := fun W => only4 W (w.heap.size + 1 + 1) (.int .i64 (T.length : Int)) (.slice (some ⟨d1, 0, none⟩) T.length e1) (.slice (some ⟨d2, 0, none⟩) T.length e2) (.slice (some ⟨d3, 0, none⟩) T.length e3)
          exact ⟨_, _, _, rfl, RT5.onlyT R6.out (o6 _), O6.out.trans (o6 _) (by simp; omega)⟩
        · have EF := Lib.hid (show nameF T ⟨k, pg⟩ s = (T, 141) by unfold nameF; rw [ha, hf]; simp [hn])
          have q1 : x.nm.toList.isEmpty = false := by
            cases h : x.nm.toList.isEmpty with
            | false => rfl
            | true => exact absurd (E0b_list h) hn
          clear hf ha hw hx hn
          go_enter Try.func45, Try.ntmps45
          go_wp2_with fail
          rw [← hW0]
          clear hW0
          (with_reducible refine KA.out.mono ?_)
          rintro e w1 ⟨rfl, rfl⟩
          go_wp2_with fail
          (with_reducible refine KI0.out.mono ?_)
          rintro e w1 ⟨rfl, o1⟩
          have R1 := Lib.hid (R.out.only o1 rfl)
          have B1 := Lib.hid (BR.out.only o1 (by simp))
          have P1 := Lib.hid (BP.out.only o1 (by simp))
          have T1 := Lib.hid (BT.out.only o1 (by simp))
          have O1 := Lib.hid (O.out.trans o1 (by simp))
          have t0 := T1.out.cell0 (i := 0) rfl
          have t1 := T1.out.cell0 (i := 1) rfl
          have t2 := T1.out.cell0 (i := 2) rfl
          have t3 := T1.out.cell0 (i := 3) rfl
          have r0 := B1.out.cell0 (i := 0) rfl
          have r1 := B1.out.cell0 (i := 1) rfl
          have r2 := B1.out.cell0 (i := 2) rfl
          have r3 := B1.out.cell0 (i := 3) rfl
          have rf := B1.out.free
          have KW := Lib.hid (rwhere_any R1.out hl s)
          clear o1
          go_wp2_with fail
          (with_reducible refine KW.out.mono ?_)
          rintro e w2 ⟨rfl, o2⟩
          rw [HW.out]
          simp only [whereE]
          have o2' := o2.alloc (.cells P0.cs 38)
          have R2 := Lib.hid (R1.out.only o2' rfl)
          have B2 := Lib.hid (B1.out.only o2' (by simp))
          have P2 := Lib.hid (P1.out.only o2' (by simp))
          have T2 := Lib.hid (T1.out.only o2' (by simp))
          have O2 := Lib.hid (O1.out.trans o2' (by simp))
          have t0 := T2.out.cell0 (i := 0) rfl
          have t1 := T2.out.cell0 (i := 1) rfl
          have t2 := T2.out.cell0 (i := 2) rfl
          have t3 := T2.out.cell0 (i := 3) rfl
          have r0 := B2.out.cell0 (i := 0) rfl
          have r1 := B2.out.cell0 (i := 1) rfl
          have r2 := B2.out.cell0 (i := 2) rfl
          have r3 := B2.out.cell0 (i := 3) rfl
          have rf := B2.out.free
          obtain ⟨p0, p1⟩ := P2.out.pid
          clear o2 o2'
          have KN := Lib.hid (rnameOf_any R2.out ⟨k, pg⟩)
          go_wp2_with fail
          (with_reducible refine KN.out.mono ?_)
          rintro e w3 ⟨rfl, o3⟩
          rw [HNM.out]
          have R3 := Lib.hid (R2.out.only o3 rfl)
          have B3 := Lib.hid (B2.out.only o3 (by simp))
          have P3 := Lib.hid (P2.out.only o3 (by simp))
          have T3 := Lib.hid (T2.out.only o3 (by simp))
          have O3 := Lib.hid (O2.out.trans o3 (by simp))
          have t0 := T3.out.cell0 (i := 0) rfl
          have t1 := T3.out.cell0 (i := 1) rfl
          have t2 := T3.out.cell0 (i := 2) rfl
          have t3 := T3.out.cell0 (i := 3) rfl
          have r0 := B3.out.cell0 (i := 0) rfl
          have r1 := B3.out.cell0 (i := 1) rfl
          have r2 := B3.out.cell0 (i := 2) rfl
          have r3 := B3.out.cell0 (i := 3) rfl
          have rf := B3.out.free
          clear o3
          go_wp2_with fail
          refine bodyPost_ret (v := .tuple #[.agg (rtC T.length (.slice A1 T.length c1) (.slice A2 T.length c2) (.slice A3 T.length c3)), .int .i64 141]) (by simp [results, Try.results45, go_sem, r0, r1, r2, r3]) rfl ?_
          rw [EF.out]
          have o4 := fun W => only4 W (w.heap.size + 1 + 1) (.int .i64 (T.length : Int)) (.slice A1 T.length c1) (.slice A2 T.length c2) (.slice A3 T.length c3)
          exact ⟨_, _, _, rfl, (R3.out).onlyT (B3.out) (o4 _), (O3.out).trans (o4 _) (by simp; omega)⟩
end Go.Proofs.Ytlidnlcmnkagaaa
