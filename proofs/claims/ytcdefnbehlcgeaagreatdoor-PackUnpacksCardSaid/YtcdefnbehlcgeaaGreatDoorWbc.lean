/- code: funcMayBe, checkInstrs.. code: what is found of heights, in memory; flow.reach.. -/
import Derived.Test.YtcdefnbehlcgeaaGreatDoorWz
import Derived.Test.YtcdefnbehlcgeaaGreatDoorWbb
import Derived.Lib.MinMax
set_option maxHeartbeats 8000000
set_option maxRecDepth 20000
set_option linter.unusedSimpArgs false
namespace Go.Proofs.YtcdefnbehlcgeaaGreatDoor
open Go.RowKit
theorem eq_names {a b : ByteArray} : (a.toList == b.toList) = decide (lst a = lst b) := by rw [toList_lst, toList_lst, Bool.eq_iff_iff]; simp
theorem firstE_cons {α : Type} (x : α) (r : List α) (f : α → Int) : firstE (x :: r) f = if f x ≠ 0 then f x else firstE r f := rfl
theorem in_eleven {op a b : Int} {t : T} {st sa : Value} {w : World} {g o : Nat} (h : ∀ q u, ((ics op a b t st sa).toList)[q]? = some u → w.cell? ⟨g, o + q, none⟩ = some u) :
 w.cell? ⟨g, o, none⟩ = some (.int .i64 op) ∧ w.cell? ⟨g, o + 1, none⟩ = some (.int .i64 a) ∧ w.cell? ⟨g, o + 2, none⟩ = some (.int .i64 b) ∧ w.cell? ⟨g, o + 3, none⟩ = some (.int .i64 t.k) ∧ w.cell? ⟨g, o + 4, none⟩ = some (.int .i64 t.n) ∧ w.cell? ⟨g, o + 5, none⟩ = some (.complex .f64 t.x t.y) ∧
  w.cell? ⟨g, o + 6, none⟩ = some (.string t.S) ∧ w.cell? ⟨g, o + 7, none⟩ = some (.int .i64 t.a) ∧ w.cell? ⟨g, o + 8, none⟩ = some (.int .i64 t.b) ∧ w.cell? ⟨g, o + 9, none⟩ = some st ∧ w.cell? ⟨g, o + 10, none⟩ = some sa :=
 ⟨h 0 _ rfl, h 1 _ rfl, h 2 _ rfl, h 3 _ rfl, h 4 _ rfl, h 5 _ rfl, h 6 _ rfl, h 7 _ rfl, h 8 _ rfl, h 9 _ rfl, h 10 _ rfl⟩
def NmRel (w : World) (fs : List Fu) (k : Nat) (nm : ByteArray) (D : Bool) (v : Value) (wr : World) : Prop :=
 ∃ j : Nat, v = .int .i64 j ∧ j ≤ k ∧ (((fs.take k).drop j).any fun f => decide (lst f.name = lst nm)) = D ∧ Only [] w wr
theorem dupAt_eq {fs : List Fu} {k : Nat} (h : k < fs.length) : dupAt fs k = (fs.take k).any fun f => decide (lst f.name = lst (fs[k]'h).name) := by
 unfold dupAt
 rw [List.getElem?_eq_getElem h]
 simp only [Option.map_some, Option.some.injEq]
theorem hdAt_eq {fs : List Fu} {k : Nat} (h : k < fs.length) : hdAt fs k = (fnOk (fs[k]'h) && !dupAt fs k) := by
 unfold hdAt
 rw [List.getElem?_eq_getElem h]
 rfl
theorem funcMay_any (nm : ByteArray) (FA : Option Addr) (nf cf : Nat) (fs : List Fu) (F : Nat → Prop) (k : Nat) (r : Bool) (w : World) (hf : FL w F fs (.slice FA nf cf)) (hg : ∀ f ∈ fs, f.Good) (hk : k < fs.length) (hl : fs.length ≤ 262144) (hr : hdAt fs k = r) :
 Calls Tryz.prog 24 #[.agg #[.string nm, .slice FA nf cf], .int .i64 k] w fun e w' => e = .returned (.bool r) ∧ Only [] w w' := by
 rw [hdAt_eq hk, dupAt_eq hk] at hr
 have hG := hg _ (List.getElem_mem hk)
 have HAll := Lib.hid (fun w1 (o1 : Only [] w w1) (j : Nat) (hj : j < fs.length) => fcs_at (hf.same o1) hj)
 obtain ⟨bl, off, sc, rfl, h2, h3, rfl, h4, c0, c1, c2, c3⟩ := fcs_at hf hk
 obtain ⟨SA, scap, rfl⟩ := h4.slice
 have HN := Lib.hid (fun j (hj : j < fs.length) => show w.cell? ⟨bl, off + j * 4, none⟩ = some (.string (fs[j]'hj).name) ∧ w.cell? ⟨bl, off + j * 4 + 1, none⟩ = some (.int .i64 (fs[j]'hj).params) ∧ w.cell? ⟨bl, off + j * 4 + 2, none⟩ = some (.int .i64 (fs[j]'hj).locals) ∧ ∃ sa sc, w.cell? ⟨bl, off + j * 4 + 3, none⟩ = some (.slice sa (fs[j]'hj).code.length sc) from by
  obtain ⟨bl', off', sc', e, -, -, -, h7, d0, d1, d2, d3⟩ := fcs_at hf hj
  injection e with e
  injection e with e1 e2
  subst e1 e2
  obtain ⟨sa, cc, rfl⟩ := h7.slice
  exact ⟨d0, d1, d2, _, _, d3⟩)
 have HA := Lib.hid (fun w => isAtom_any (fs[k]'hk).name w hG.name)
 have HP := Lib.hid (fun w => isWithin_any (fs[k]'hk).params 0 (fs[k]'hk).locals w)
 have HC := Lib.hid (fun w => isWithin_any ((fs[k]'hk).code.length : Int) 1 1024 w)
 have hp0 : decide (0 ≤ (fs[k]'hk).params) = true := decide_eq_true hG.params
 have hcl : (fs[k]'hk).code.length ≤ 262144 := hG.len
 obtain ⟨D, hD⟩ : ∃ D, ((fs.take k).any fun f => decide (lst f.name = lst (fs[k]'hk).name)) = D := ⟨_, rfl⟩
 have HD := Lib.hid (show (((fs.take k).drop 0).any fun f => decide (lst f.name = lst (fs[k]'hk).name)) = D from hD)
 rw [hD] at hr
 unfold fnOk at hr
 clear h4 hG hg hD HAll
 generalize fs[k]'hk = f at *
 obtain ⟨r1, hr1⟩ : ∃ r1, atomOk (lst f.name) = r1 := ⟨_, rfl⟩
 obtain ⟨r2, hr2⟩ : ∃ r2, decide (f.params ≤ f.locals) = r2 := ⟨_, rfl⟩
 obtain ⟨r4, hr4⟩ : ∃ r4, (decide (1 ≤ (f.code.length : Int)) && decide ((f.code.length : Int) ≤ 1024)) = r4 := ⟨_, rfl⟩
 have hc4 : (decide (1 ≤ f.code.length) && decide (f.code.length ≤ 1024)) = r4 := by
  rw [← hr4]
  rw [show decide (1 ≤ f.code.length) = decide (1 ≤ (f.code.length : Int)) from decide_eq_decide.2 ⟨fun h => by omega, fun h => by omega⟩, show decide (f.code.length ≤ 1024) = decide ((f.code.length : Int) ≤ 1024) from decide_eq_decide.2 ⟨fun h => by omega, fun h => by omega⟩]
 rw [hr1] at HA
 rw [hp0, hr2, Bool.true_and] at HP
 rw [hr4] at HC
 rw [hr1, hr2, hc4] at hr
 have B0 := Lib.hid ((Bk.made w 24 #[.string nm, .slice (some ⟨bl, off, none⟩) fs.length cf]).alloc (.cells (fcs f (.slice SA f.code.length scap)) 45))
 have B1 := Lib.hid (Bk.madeAt (w := w.alloc (.cells #[.string nm, .slice (some ⟨bl, off, none⟩) fs.length cf] 24)) (t := 45) (cs := fcs f (.slice SA f.code.length scap)) (b := w.heap.size + 1) (by simp))
 have O0 := Lib.hid (((Only.refl [] w).alloc (.cells #[.string nm, .slice (some ⟨bl, off, none⟩) fs.length cf] 24)).alloc (.cells (fcs f (.slice SA f.code.length scap)) 45))
 obtain ⟨W0, hW0⟩ : ∃ W0, (w.alloc (.cells #[.string nm, .slice (some ⟨bl, off, none⟩) fs.length cf] 24)).alloc (.cells (fcs f (.slice SA f.code.length scap)) 45) = W0 := ⟨_, rfl⟩
 rw [hW0] at B0 B1 O0
 have HW0 := Lib.hid hW0
 have HR := Lib.hid hr
 have p3 : (k : Int) ≤ (fs.length : Int) := by omega
 have hcf : fs.length ≤ cf := by
  obtain ⟨A', cap', hv, h, -⟩ := hf.mk fu_len
  injection hv with _ _ hv3
  subst hv3
  exact h
 have e1 : (k : Int) ≤ (cf : Int) := by omega
 have ca : ∀ o, (w.alloc o).cell? ⟨bl, off + k * 4, none⟩ = some (.string f.name) ∧ (w.alloc o).cell? ⟨bl, off + k * 4 + 1, none⟩ = some (.int .i64 f.params) ∧ (w.alloc o).cell? ⟨bl, off + k * 4 + 2, none⟩ = some (.int .i64 f.locals) ∧ (w.alloc o).cell? ⟨bl, off + k * 4 + 3, none⟩ = some (.slice SA f.code.length scap) := fun o =>
  ⟨(((Only.refl [] w).alloc o).cell (p := ⟨bl, off + k * 4, none⟩) h2 (by simp)).trans c0, (((Only.refl [] w).alloc o).cell (p := ⟨bl, off + k * 4 + 1, none⟩) h2 (by simp)).trans c1, (((Only.refl [] w).alloc o).cell (p := ⟨bl, off + k * 4 + 2, none⟩) h2 (by simp)).trans c2, (((Only.refl [] w).alloc o).cell (p := ⟨bl, off + k * 4 + 3, none⟩) h2 (by simp)).trans c3⟩
 obtain ⟨x0, x1, x2, x3⟩ := ca (.cells #[.string nm, .slice (some ⟨bl, off, none⟩) fs.length cf] 24)
 have hb0 := B0.out.lt
 have hkl : (k : Int) < (fs.length : Int) := by omega
 clear hr hr1 hr2 hr4 hc4 hp0 c0 c1 c2 c3 ca hW0 hf
 go_enter Tryz.func24, Tryz.ntmps24
 go_wp2_with fail
 rw [HW0.out]
 go_loopw [18] (fun v wr => NmRel W0 fs k f.name D v wr) (fun v _ => k - (intOf v).toNat)
 case atStart => exact ⟨0, rfl, Nat.zero_le _, HD.out, Only.refl _ _⟩
 case round =>
  obtain ⟨j, rfl, hj, hq, ho⟩ := hrel
  have HO := Lib.hid ho
  have HQ := Lib.hid hq
  have BM := Lib.hid (B1.out.only ho (by simp))
  clear ho hq
  by_cases hjk : j < k
  ·have hjl : j < fs.length := by omega
   obtain ⟨d0, d1, d2, sa, sc, d3⟩ := HN.out j hjl
   have HT := Lib.hid (show (fs.take k).drop j = fs[j]'hjl :: (fs.take k).drop (j + 1) from by
    rw [List.drop_eq_getElem_cons (by simp; omega)]
    simp)
   have hq2 := HQ.out
   rw [HT.out, List.any_cons] at hq2
   have HQ2 := Lib.hid hq2
   clear hq2 HT
   generalize fs[j]'hjl = g at *
   have OW := Lib.hid (O0.out.trans HO.out (by simp))
   have y0 := (OW.out.cell (p := ⟨bl, off + j * 4, none⟩) h2 (by simp)).trans d0
   have y1 := (OW.out.cell (p := ⟨bl, off + j * 4 + 1, none⟩) h2 (by simp)).trans d1
   have y2 := (OW.out.cell (p := ⟨bl, off + j * 4 + 2, none⟩) h2 (by simp)).trans d2
   have y3 := (OW.out.cell (p := ⟨bl, off + j * 4 + 3, none⟩) h2 (by simp)).trans d3
   have z0 : ∀ o, (wr.alloc o).cell? ⟨w.heap.size + 1, 0, none⟩ = some (.string f.name) := fun o => (BM.out.alloc o).cell0 rfl
   have OA := Lib.hid (HO.out.alloc (.cells (fcs g (.slice sa g.code.length sc)) 45))
   obtain ⟨eqb, heq⟩ : ∃ eqb, (g.name.toList == f.name.toList) = eqb := ⟨_, rfl⟩
   have heq2 : decide (lst g.name = lst f.name) = eqb := by rw [← heq, eq_names]
   rw [heq2] at HQ2
   clear d0 d1 d2 d3 heq2
   cases eqb with
   | true =>
    have HE := Lib.hid (show false = r from by
     rw [← HR.out, ← HQ2.out, Bool.true_or, Bool.not_true, Bool.and_false])
    go_wp2_with fail
    go_ret
    exact ⟨ret_bool HE.out, O0.out.trans OA.out (by simp)⟩
   | false =>
    have HX := Lib.hid (show NmRel W0 fs k f.name D (.int .i64 ((j : Int) + 1)) (wr.alloc (.cells (fcs g (.slice sa g.code.length sc)) 45)) from ⟨j + 1, by go_num, by omega, by simpa using HQ2.out, OA.out⟩)
    go_wp2_with fail
    go_roundw
    case rel => exact HX.out
    case measure => simp [intOf]; omega
  ·have hje : j = k := by omega
   subst hje
   have hD : false = D := by
    rw [← HQ.out, List.drop_eq_nil_of_le (by rw [List.length_take]; exact Nat.min_le_left _ _)]
    rfl
   have hrr := HR.out
   rw [← hD, Bool.not_false, Bool.and_true] at hrr
   have HRR := Lib.hid hrr
   have OW := Lib.hid (O0.out.trans HO.out (by simp))
   have z0 := BM.out.cell0 (i := 0) rfl
   clear hrr hD HQ hj
   cases r1 with
   | false =>
    go_wp2_with fail
    (with_reducible refine (HA.out _).mono ?_)
    rintro e w1 ⟨rfl, o1⟩
    have O1 := Lib.hid (OW.out.trans o1 (by simp))
    clear o1
    go_wp2_with fail
    go_ret
    exact ⟨ret_bool (by rw [← HRR.out, Bool.false_and]), O1.out⟩
   | true =>
    go_wp2_with fail
    (with_reducible refine (HA.out _).mono ?_)
    rintro e w1 ⟨rfl, o1⟩
    have O1 := Lib.hid (OW.out.trans o1 (by simp))
    have B2 := Lib.hid (BM.out.only o1 (by simp))
    have z1 := B2.out.cell0 (i := 1) rfl
    have z2 := B2.out.cell0 (i := 2) rfl
    have z3 := B2.out.cell0 (i := 3) rfl
    clear o1 z0
    cases r2 with
    | false =>
     go_wp2_with fail
     (with_reducible refine (HP.out _).mono ?_)
     rintro e w2 ⟨rfl, rfl⟩
     go_wp2_with fail
     go_ret
     exact ⟨ret_bool (by rw [← HRR.out, Bool.true_and, Bool.false_and, Bool.false_and]), O1.out⟩
    | true =>
     by_cases hl3 : f.locals ≤ 32
     ·have HRR2 := Lib.hid (show r4 = r by rw [← HRR.out, decide_eq_true hl3, Bool.true_and, Bool.true_and, Bool.true_and])
      go_wp2_with fail
      (with_reducible refine (HP.out _).mono ?_)
      rintro e w2 ⟨rfl, rfl⟩
      go_wp2_with fail
      (with_reducible refine (HC.out _).mono ?_)
      rintro e w2 ⟨rfl, rfl⟩
      go_wp2_with fail
      go_ret
      exact ⟨ret_bool HRR2.out, O1.out⟩
     ·have HRR2 := Lib.hid (show false = r by rw [← HRR.out, decide_eq_false hl3, Bool.true_and, Bool.true_and, Bool.false_and])
      have e3 : decide (f.locals ≤ 32) = false := decide_eq_false hl3
      clear hl3
      go_wp2_with fail
      (with_reducible refine (HP.out _).mono ?_)
      rintro e w2 ⟨rfl, rfl⟩
      go_wp2_with fail
      go_ret
      exact ⟨ret_bool HRR2.out, O1.out⟩
open Go.RowKit
def iA (H : List Int) : Array Value := (H.map fun z => Value.int .i64 z).toArray
def bA (V : List Bool) : Array Value := (V.map Value.bool).toArray
theorem iA_at {H : List Int} {t : Nat} (h : t < H.length) : (iA H)[t]? = some (.int .i64 (H.getD t (-1))) := by
 unfold iA
 rw [List.getElem?_toArray, List.getElem?_map, getD_some h (-1)]
 rfl
theorem bA_at {V : List Bool} {t : Nat} (h : t < V.length) : (bA V)[t]? = some (.bool (V.getD t false)) := by
 unfold bA
 rw [List.getElem?_toArray, List.getElem?_map, getD_some h false]
 rfl
theorem iA_set (H : List Int) (t : Nat) (b : Int) : (iA H).setIfInBounds t (.int .i64 b) = iA (H.set t b) := by
 unfold iA
 rw [List.setIfInBounds_toArray, List.map_set]
theorem bA_set (V : List Bool) (t : Nat) (b : Bool) : (bA V).setIfInBounds t (.bool b) = bA (V.set t b) := by
 unfold bA
 rw [List.setIfInBounds_toArray, List.map_set]
structure FC where
 nm : ByteArray
 FA : Option Addr
 nf : Nat
 cf : Nat
 CA : Option Addr
 n : Nat
 cc : Nat
structure Flw (w : World) (c : FC) (fl hb vb : Nat) (H : List Int) (V : List Bool) (nx : Nat) : Prop where
 b : Bk w fl 106 #[.string c.nm, .slice c.FA c.nf c.cf, .slice c.CA c.n c.cc, .slice (some ⟨hb, 0, none⟩) c.n c.n, .slice (some ⟨vb, 0, none⟩) c.n c.n, .int .i64 nx]
 h : Bk w hb 3 (iA H)
 v : Bk w vb 4 (bA V)
section
variable {w : World} {c : FC} {fl hb vb : Nat} {H : List Int} {V : List Bool} {nx : Nat}
theorem Flw.apart (h : Flw w c fl hb vb H V nx) : fl ≠ hb ∧ fl ≠ vb ∧ hb ≠ vb := ⟨h.b.apart h.h (by decide), h.b.apart h.v (by decide), h.h.apart h.v (by decide)⟩
theorem Flw.only {S : List Nat} {w' : World} (h : Flw w c fl hb vb H V nx) (o : Only S w w') (h1 : fl ∉ S) (h2 : hb ∉ S) (h3 : vb ∉ S) : Flw w' c fl hb vb H V nx := ⟨h.b.only o h1, h.h.only o h2, h.v.only o h3⟩
theorem Flw.same {w' : World} (h : Flw w c fl hb vb H V nx) (o : Only [] w w') : Flw w' c fl hb vb H V nx := h.only o (by simp) (by simp) (by simp)
theorem Flw.fs (h : Flw w c fl hb vb H V nx) : w.cell? ⟨fl, 0, none⟩ = some (.string c.nm) ∧ w.cell? ⟨fl, 1, none⟩ = some (.slice c.FA c.nf c.cf) ∧ w.cell? ⟨fl, 2, none⟩ = some (.slice c.CA c.n c.cc) ∧ w.cell? ⟨fl, 3, none⟩ = some (.slice (some ⟨hb, 0, none⟩) c.n c.n) ∧ w.cell? ⟨fl, 4, none⟩ = some (.slice (some ⟨vb, 0, none⟩) c.n c.n) ∧ w.cell? ⟨fl, 5, none⟩ = some (.int .i64 nx) :=
 ⟨h.b.cell0 rfl, h.b.cell0 rfl, h.b.cell0 rfl, h.b.cell0 rfl, h.b.cell0 rfl, h.b.cell0 rfl⟩
theorem Flw.setH (h : Flw w c fl hb vb H V nx) (t : Nat) (b : Int) : Flw (w.setCell ⟨hb, t, none⟩ (.int .i64 b)) c fl hb vb (H.set t b) V nx :=
 have ⟨a1, _, a3⟩ := h.apart
 ⟨h.b.away (p := ⟨hb, t, none⟩) a1 _, by rw [← iA_set]; exact h.h.set t _, h.v.away (p := ⟨hb, t, none⟩) (Ne.symm a3) _⟩
theorem Flw.setV (h : Flw w c fl hb vb H V nx) (t : Nat) (b : Bool) : Flw (w.setCell ⟨vb, t, none⟩ (.bool b)) c fl hb vb H (V.set t b) nx :=
 have ⟨_, a2, a3⟩ := h.apart
 ⟨h.b.away (p := ⟨vb, t, none⟩) a2 _, h.h.away (p := ⟨vb, t, none⟩) a3 _, by rw [← bA_set]; exact h.v.set t _⟩
theorem Flw.setN (h : Flw w c fl hb vb H V nx) (x : Nat) : Flw (w.setCell ⟨fl, 5, none⟩ (.int .i64 (x : Int))) c fl hb vb H V x :=
 have ⟨a1, a2, _⟩ := h.apart
 ⟨h.b.set 5 _, h.h.away (p := ⟨fl, 5, none⟩) (Ne.symm a1) _, h.v.away (p := ⟨fl, 5, none⟩) (Ne.symm a2) _⟩
end
theorem reach_new (w : World) (c : FC) (fl hb vb : Nat) (H : List Int) (V : List Bool) (nx t : Nat) (z b : Int) (hz : z = (t : Int)) (ht : t < c.n) (hH : H.length = c.n) (hV : V.length = c.n) (h : Flw w c fl hb vb H V nx) (hm : H.getD t (-1) = -1) (hn : c.n ≤ 262144) (hnx : nx ≤ c.n) :
 Calls Tryz.prog 51 #[.pointer (some ⟨fl, 0, none⟩), .int .i64 z, .int .i64 b] w fun e w' => e = .returned (.bool true) ∧ Only [hb, vb, fl] w w' ∧ Flw w' c fl hb vb (H.set t b) (V.set t true) (min nx t) := by
 subst hz
 obtain ⟨nm, FA, nf, cf, CA, n, cc⟩ := c
 obtain ⟨c0, c1, c2, c3, c4, c5⟩ := h.fs
 obtain ⟨a1, a2, a3⟩ := h.apart
 dsimp only at ht hH hV hn hnx c0 c1 c2 c3 c4
 have k1 := h.h.cell0 (iA_at (show t < H.length by omega))
 rw [hm] at k1
 have k2 := h.v.cell0 (bA_at (show t < V.length by omega))
 have k1' : w.cell? ⟨hb, 0 + t, none⟩ = some (.int .i64 (-1)) := by rw [Nat.zero_add]; exact k1
 have q1 := h.h.free t
 have q2 := h.v.free t
 have q3 := h.b.free 5
 have hti : (t : Int) < (n : Int) := by omega
 have k3 : (w.setCell ⟨hb, t, none⟩ (.int .i64 b)).cell? ⟨hb, t, none⟩ = some (.int .i64 b) := (h.setH t b).h.cell0 (by rw [iA_at (by rw [List.length_set]; omega), getD_set _ _ _ _ _ (by omega), if_pos rfl])
 have HF := Lib.hid (((h.setH t b).setV t true).setN (min nx t))
 have HO := Lib.hid ((((Only.refl [hb, vb, fl] w).set (p := ⟨hb, t, none⟩) (.inl (by simp)) (.int .i64 b)).set (p := ⟨vb, t, none⟩) (.inl (by simp)) (.bool true)).set (p := ⟨fl, 5, none⟩) (.inl (by simp)) (.int .i64 ((min nx t : Nat) : Int)))
 have hmin : min (nx : Int) (t : Int) = ((min nx t : Nat) : Int) := by omega
 rw [← hmin] at HO HF
 have kz := HF.out.h.cell0 (t := 3) (i := t) (by rw [iA_at (by rw [List.length_set]; omega), getD_set _ _ _ _ _ (by omega), if_pos rfl])
 clear h hm hmin
 go_enter Tryz.func51, Tryz.ntmps51
 go_wp2_with fail
 go_ret
 exact ⟨ret_bool (by simp), HO.out, HF.out⟩
theorem reach_old (w : World) (c : FC) (fl hb vb : Nat) (H : List Int) (V : List Bool) (nx t : Nat) (z b : Int) (r : Bool) (hz : z = (t : Int)) (ht : t < c.n) (hH : H.length = c.n) (h : Flw w c fl hb vb H V nx) (hm : H.getD t (-1) ≠ -1) (hr : (H.getD t (-1) == b) = r) :
 Calls Tryz.prog 51 #[.pointer (some ⟨fl, 0, none⟩), .int .i64 z, .int .i64 b] w fun e w' => e = .returned (.bool r) ∧ w = w' := by
 subst hz
 obtain ⟨nm, FA, nf, cf, CA, n, cc⟩ := c
 obtain ⟨c0, c1, c2, c3, c4, c5⟩ := h.fs
 dsimp only at ht hH c0 c1 c2 c3 c4
 have k1 := h.h.cell0 (iA_at (show t < H.length by omega))
 have k1' : w.cell? ⟨hb, 0 + t, none⟩ = some (.int .i64 (H.getD t (-1))) := by rw [Nat.zero_add]; exact k1
 have hti : (t : Int) < (n : Int) := by omega
 generalize H.getD t (-1) = x at *
 have e1 : (x == -1) = false := by simpa using hm
 clear h hm hH
 go_enter Tryz.func51, Tryz.ntmps51
 go_wp2_with fail
 go_ret
 exact ⟨rfl, rfl⟩
end Go.Proofs.YtcdefnbehlcgeaaGreatDoor
