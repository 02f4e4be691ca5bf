/- The document's table: Free. -/
import Derived.Test.YtlidnlcmnkagaaaJL
namespace Go.Proofs.Ytlidnlcmnkagaaa
open Go.RowKit
set_option maxRecDepth 20000

def RFreeE (w : World) (n : Nat) (r : List Pl × Int) (e : Ending) (w' : World) : Prop := ∃ u1 u2 u3, e = .returned (.tuple #[.agg (rtC n u1 u2 u3), .int .i64 r.2]) ∧ RT w' u1 u2 u3 r.1 ∧ Only [] w w'
theorem RT.forms0 {w : World} {v1 v2 v3 : Value} {T : List Pl} (r : RT w v1 v2 v3 T) : ∃ A1 c1 A2 c2 A3 c3, v1 = .slice A1 T.length c1 ∧ v2 = .slice A2 T.length c2 ∧ v3 = .slice A3 T.length c3 := by
  obtain ⟨D1, e1, f1, -, -, -, -⟩ := r.h.form
  obtain ⟨D2, e2, f2, -, -, -, -⟩ := r.a.form
  obtain ⟨D3, e3, f3, -, -, -, -⟩ := r.n.form
  rw [List.length_map] at f1 f2 f3
  exact ⟨_, _, _, _, _, _, f1, f2, f3⟩
set_option maxHeartbeats 16000000 in
theorem rfree_any {w : World} {v1 v2 v3 : Value} {T : List Pl} (r : RT w v1 v2 v3 T) (hl : T.length ≤ 256) (p : Pd) : Calls Try.prog 44 #[.agg (rtC T.length v1 v2 v3), .agg p.cs] w (RFreeE w T.length (freeF T p)) := by
  obtain ⟨A1, c1, A2, c2, A3, c3, rfl, rfl, rfl⟩ := r.forms0
  obtain ⟨W0, hW0⟩ : ∃ W0, W0 = ((w.alloc (.cells (rtC T.length (.slice A1 T.length c1) (.slice A2 T.length c2) (.slice A3 T.length c3)) 30)).alloc (.cells p.cs 38)).alloc (.cells rt0 30) := ⟨_, rfl⟩
  have BT : Hid (Bk W0 w.heap.size 30 (rtC T.length (.slice A1 T.length c1) (.slice A2 T.length c2) (.slice A3 T.length c3))) := Lib.hid (by rw [hW0]; exact ((Bk.made w _ _).alloc _).alloc _)
  have BP : Hid (Bk W0 (w.heap.size + 1) 38 p.cs) := Lib.hid (by rw [hW0]; exact (Bk.newAt (by simp)).alloc _)
  have BR : Hid (Bk W0 (w.heap.size + 1 + 1) 30 rt0) := Lib.hid (by rw [hW0]; exact Bk.newAt (by simp))
  have O : Hid (Only [] w W0) := Lib.hid (by rw [hW0]; exact (((Only.refl [] w).alloc _).alloc _).alloc _)
  have R : Hid (RT W0 (.slice A1 T.length c1) (.slice A2 T.length c2) (.slice A3 T.length c3) T) := Lib.hid (r.only O.out rfl)
  have K := ris_any R.out p
  have LA : w.heap.size ≤ w.heap.size + 1 + 1 := by omega
  have t0 := BT.out.cell0 (i := 0) rfl
  have t1 := BT.out.cell0 (i := 1) rfl
  have t2 := BT.out.cell0 (i := 2) rfl
  have t3 := BT.out.cell0 (i := 3) rfl
  obtain ⟨p0, p1⟩ := BP.out.pid
  clear r
  cases hf : findF T p with
  | none =>
    rw [show isF T p = false from by unfold isF; rw [hf]; rfl] at K
    have EF := Lib.hid (show freeF T p = (T, 3) by unfold freeF; rw [hf])
    have K := Lib.hid K
    clear hf
    go_enter Try.func44, Try.ntmps44
    go_wp2_with fail
    rw [← hW0]
    clear hW0
    (with_reducible refine K.out.mono ?_)
    rintro e w1 ⟨rfl, o1⟩
    have R1 := Lib.hid (R.out.only o1 rfl)
    have B1 := Lib.hid (BR.out.only o1 (by simp))
    have O1 := Lib.hid (O.out.trans o1 (by simp))
    have bt := BT.out.only o1 (by simp)
    have t0 := bt.cell0 (i := 0) rfl
    have t1 := bt.cell0 (i := 1) rfl
    have t2 := bt.cell0 (i := 2) rfl
    have t3 := bt.cell0 (i := 3) rfl
    have r0 := B1.out.cell0 (i := 0) rfl
    have r1 := B1.out.cell0 (i := 1) rfl
    have r2 := B1.out.cell0 (i := 2) rfl
    have r3 := B1.out.cell0 (i := 3) rfl
    have rf := B1.out.free
    clear o1 bt
    go_wp2_with fail
    refine bodyPost_ret (v := .tuple #[.agg (rtC T.length (.slice A1 T.length c1) (.slice A2 T.length c2) (.slice A3 T.length c3)), .int .i64 3]) (by simp [results, Try.results44, go_sem, r0, r1, r2, r3]) rfl ?_
    rw [EF.out]
    have o4 := only4 w1 (w.heap.size + 1 + 1) (.int .i64 (T.length : Int)) (.slice A1 T.length c1) (.slice A2 T.length c2) (.slice A3 T.length c3)
    exact ⟨_, _, _, rfl, R1.out.onlyT B1.out o4, O1.out.trans o4 (by simp; omega)⟩
  | some x =>
    rw [show isF T p = true from by unfold isF; rw [hf]; rfl] at K
    have EF := Lib.hid (show freeF T p = (T.set p.n.toNat ⟨x.had, false, E0b⟩, 0) by unfold freeF; rw [hf])
    have K := Lib.hid K
    obtain ⟨h0, hx, -, -⟩ := find_some hf
    obtain ⟨pn, pg⟩ := p
    obtain ⟨k, rfl⟩ := Int.eq_ofNat_of_zero_le h0
    dsimp only at hx EF p0 p1
    rw [Int.toNat_natCast] at hx EF
    have hk := (List.getElem?_eq_some_iff.1 hx).1
    have HX := Lib.hid hx
    have pk : (k : Int) < (T.length : Int) := by omega
    clear hf hx
    go_enter Try.func44, Try.ntmps44
    go_wp2_with fail
    rw [← hW0]
    clear hW0
    (with_reducible refine K.out.mono ?_)
    rintro e w1 ⟨rfl, o1⟩
    have R1 := Lib.hid (R.out.only o1 rfl)
    have B1 := Lib.hid (BR.out.only o1 (by simp))
    have P1 := Lib.hid (BP.out.only o1 (by simp))
    have O1 := Lib.hid (O.out.trans o1 (by simp))
    have bt := BT.out.only o1 (by simp)
    have t0 := bt.cell0 (i := 0) rfl
    have t1 := bt.cell0 (i := 1) rfl
    have t2 := bt.cell0 (i := 2) rfl
    have t3 := bt.cell0 (i := 3) rfl
    have KC := Lib.hid (rcopied_any (T.length : Int) R1.out.h R1.out.a R1.out.n (by simp; omega) (by simp; omega) (by simp; omega))
    clear o1 bt K R BR BP
    go_wp2_with fail
    (with_reducible refine KC.out.mono ?_)
    rintro e w2 ⟨u1, u2, u3, rfl, ⟨h1, h2, h3⟩, o2⟩
    obtain ⟨d1, e1, f1⟩ := h1.some_ (by simp; omega)
    obtain ⟨d2, e2, f2⟩ := h2.some_ (by simp; omega)
    obtain ⟨d3, e3, f3⟩ := h3.some_ (by simp; omega)
    rw [List.length_map] at f1 f2 f3
    subst f1 f2 f3
    have O3 := Lib.hid ((O1.out.trans o2 (by simp)).alloc (.cells (rtC T.length (.slice (some ⟨d1, 0, none⟩) T.length e1) (.slice (some ⟨d2, 0, none⟩) T.length e2) (.slice (some ⟨d3, 0, none⟩) T.length e3)) 30))
    have bt3 := Bk.made w2 30 (rtC T.length (.slice (some ⟨d1, 0, none⟩) T.length e1) (.slice (some ⟨d2, 0, none⟩) T.length e2) (.slice (some ⟨d3, 0, none⟩) T.length e3))
    have br3 := (B1.out.only o2 (by simp)).alloc (.cells (rtC T.length (.slice (some ⟨d1, 0, none⟩) T.length e1) (.slice (some ⟨d2, 0, none⟩) T.length e2) (.slice (some ⟨d3, 0, none⟩) T.length e3)) 30)
    have bp3 := (P1.out.only o2 (by simp)).alloc (.cells (rtC T.length (.slice (some ⟨d1, 0, none⟩) T.length e1) (.slice (some ⟨d2, 0, none⟩) T.length e2) (.slice (some ⟨d3, 0, none⟩) T.length e3)) 30)
    have i3 := h1.alloc (.cells (rtC T.length (.slice (some ⟨d1, 0, none⟩) T.length e1) (.slice (some ⟨d2, 0, none⟩) T.length e2) (.slice (some ⟨d3, 0, none⟩) T.length e3)) 30)
    have a3 := h2.alloc (.cells (rtC T.length (.slice (some ⟨d1, 0, none⟩) T.length e1) (.slice (some ⟨d2, 0, none⟩) T.length e2) (.slice (some ⟨d3, 0, none⟩) T.length e3)) 30)
    have n3 := h3.alloc (.cells (rtC T.length (.slice (some ⟨d1, 0, none⟩) T.length e1) (.slice (some ⟨d2, 0, none⟩) T.length e2) (.slice (some ⟨d3, 0, none⟩) T.length e3)) 30)
    have hw2 : w.heap.size + 1 + 1 < w2.heap.size := by have h1 := B1.out.lt; have h2 := o2.size; omega
    have s2 := bt3.cell0 (i := 2) rfl
    have q0 := bp3.cell0 (i := 0) rfl
    have z2 := a3.at_ (al_at HX.out) (j := 0) rfl (q := k) (by show k = k * 1 + 0; omega)
    have zf := a3.free_ k
    have K4 := Lib.hid (bt3.byRow a3 kb3 k (.bool false))
    have R4 := Lib.hid (br3.byRow a3 kb3 k (.bool false))
    have P4 := Lib.hid (bp3.byRow a3 kb4 k (.bool false))
    have I4 := Lib.hid (i3.setRow a3 kib k (.bool false))
    have A4 := Lib.hid (a3.put (j := 0) false (al_at HX.out) (.bool false) (by show 0 < 1; omega) rfl (q := k) (by show k = k * 1 + 0; omega))
    have N4 := Lib.hid (n3.setRow a3 (fun e => kbs e.symm) k (.bool false))
    have hd2 : w1.heap.size ≤ d2 := (h2.block rfl).1
    have hd3 : w1.heap.size ≤ d3 := (h3.block rfl).1
    have hO1 := O1.out.size
    have O4 := Lib.hid (O3.out.set (p := ⟨d2, k, none⟩) (.inr (by show w.heap.size ≤ d2; omega)) (.bool false))
    have s3 := K4.out.cell0 (i := 3) rfl
    have qq0 := P4.out.cell0 (i := 0) rfl
    have z3 := N4.out.at_ (nm_at HX.out) (j := 0) rfl (q := k) (by show k = k * 1 + 0; omega)
    have zf3 := N4.out.free_ k
    have K5 := Lib.hid (K4.out.byRow N4.out ks3 k (.string E0b))
    have R5 := Lib.hid (R4.out.byRow N4.out ks3 k (.string E0b))
    have I5 := Lib.hid (I4.out.setRow N4.out kis k (.string E0b))
    have A5 := Lib.hid (A4.out.setRow N4.out kbs k (.string E0b))
    have N5 := Lib.hid (N4.out.put (j := 0) E0b (nm_at HX.out) (.string E0b) (by show 0 < 1; omega) rfl (q := k) (by show k = k * 1 + 0; omega))
    have O5 := Lib.hid (O4.out.set (p := ⟨d3, k, none⟩) (.inr (by show w.heap.size ≤ d3; omega)) (.string E0b))
    have y0 := K5.out.cell0 (i := 0) rfl
    have y1 := K5.out.cell0 (i := 1) rfl
    have y2 := K5.out.cell0 (i := 2) rfl
    have y3 := K5.out.cell0 (i := 3) rfl
    have r0 := R5.out.cell0 (i := 0) rfl
    have r1 := R5.out.cell0 (i := 1) rfl
    have r2 := R5.out.cell0 (i := 2) rfl
    have r3 := R5.out.cell0 (i := 3) rfl
    have rf := R5.out.free
    clear KC bt3 br3 bp3 i3 a3 n3 h2 h3 o2 h1
    go_wp2_with fail
    refine bodyPost_ret (v := .tuple #[.agg (rtC T.length (.slice (some ⟨d1, 0, none⟩) T.length e1) (.slice (some ⟨d2, 0, none⟩) T.length e2) (.slice (some ⟨d3, 0, none⟩) T.length e3)), .int .i64 0]) (by simp [results, Try.results44, go_sem, r0, r1, r2, r3]) rfl ?_
    rw [EF.out]
    have RT5 := RT.turned (T := T) (k := k) ⟨x.had, false, E0b⟩ (by rw [set_same (had_at HX.out)]; exact I5.out) A5.out N5.out
    have o6 := fun W => only4 W (w.heap.size + 1 + 1) (.int .i64 (T.length : Int)) (.slice (some ⟨d1, 0, none⟩) T.length e1) (.slice (some ⟨d2, 0, none⟩) T.length e2) (.slice (some ⟨d3, 0, none⟩) T.length e3)
    exact ⟨_, _, _, rfl, RT5.onlyT R5.out (o6 _), O5.out.trans (o6 _) (by simp; omega)⟩
end Go.Proofs.Ytlidnlcmnkagaaa
