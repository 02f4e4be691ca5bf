/- The document's Same: of two patterns that are one tree.. The document's Same: of two instructions that are one.. -/
import Derived.Test.YtcdefnbehlcgeaaGreatDoorWbw
import Derived.Test.YtcdefnbehlcgeaaGreatDoorWv
import Derived.Test.YtcdefnbehlcgeaaGreatDoorWbe
set_option maxHeartbeats 8000000
set_option maxRecDepth 20000
set_option linter.unusedSimpArgs false
set_option linter.unusedVariables false
namespace Go.Proofs.YtcdefnbehlcgeaaGreatDoor
open Go.RowKit
def QSameOk (t : QT) : Prop := ∀ (st sl sr st' sl' sr' : Value) (F F' : Nat → Prop) (w : World), PV w F t st sl sr → PV w F' t st' sl' sr' →
 Calls Tryz.prog 38 #[.agg #[.int .i64 t.k, .int .i64 t.n, .int .i64 t.tm.k, .int .i64 t.tm.n, .complex .f64 t.tm.x t.tm.y, .string t.tm.S, .int .i64 t.tm.a, .int .i64 t.tm.b, st, sl, sr], .agg #[.int .i64 t.k, .int .i64 t.n, .int .i64 t.tm.k, .int .i64 t.tm.n, .complex .f64 t.tm.x t.tm.y, .string t.tm.S, .int .i64 t.tm.a, .int .i64 t.tm.b, st', sl', sr']] w fun e w' => e = .returned (.bool true) ∧ Only [] w w'
theorem r5sameAll_any (l : List QT) (ih : ∀ u ∈ l, QSameOk u) (A A' : Option Addr) (c c' : Nat) (F F' : Nat → Prop) (w : World) (h : QL w F l (.slice A l.length c)) (h' : QL w F' l (.slice A' l.length c')) :
 Calls Tryz.prog 64 #[.slice A l.length c, .slice A' l.length c'] w fun e w' => e = .returned (.bool true) ∧ Only [] w w' := by
 have rs := store_com
 obtain ⟨A1, cap1, hv, hlc, hcap, hrows⟩ := h.mk qds_len
 injection hv with hv1 hv2 hv3
 subst hv1 hv3
 obtain ⟨A2, cap2, hv, hlc', hcap', hrows'⟩ := h'.mk qds_len
 injection hv with hv1 hv2 hv3
 subst hv1 hv3
 have H1 := Lib.hid hrows
 have H2 := Lib.hid hrows'
 have IH := Lib.hid ih
 clear hrows hrows' h h' ih
 go_enter Tryz.func64, Tryz.ntmps64
 go_wp2_with fail
 go_loopw [5] (fun v wr => ∃ j : Nat, v = .int .i64 j ∧ j ≤ l.length ∧ Only [] w wr) (fun v _ => l.length - (intOf v).toNat)
 case atStart => exact ⟨0, rfl, Nat.zero_le _, Only.refl _ _⟩
 case round =>
  obtain ⟨j, rfl, hj, ho⟩ := hrel
  have HO := Lib.hid ho
  clear ho
  by_cases hjl : j < l.length
  ·rcases H1.out with h0 | ⟨bl, off, rfl, hbl, _, hvs⟩
   ·rw [h0] at hjl; simp at hjl
   rcases H2.out with h0 | ⟨bl', off', rfl, hbl', _, hvs'⟩
   ·rw [h0] at hjl; simp at hjl
   obtain ⟨us, hds, hcs⟩ := hvs j (l[j]'hjl) (List.getElem?_eq_getElem hjl)
   obtain ⟨us', hds', hcs'⟩ := hvs' j (l[j]'hjl) (List.getElem?_eq_getElem hjl)
   obtain ⟨st, sl, sr, rfl, htv⟩ := q_cells _ hds
   obtain ⟨st', sl', sr', rfl, htv'⟩ := q_cells _ hds'
   have htv : PV w F (l[j]'hjl) st sl sr := htv
   have htv' : PV w F' (l[j]'hjl) st' sl' sr' := htv'
   obtain ⟨S0, S1, S2, LA, lc, RA, rc, rfl, rfl, rfl⟩ := htv.slices
   obtain ⟨S0', S1', S2', LA', lc', RA', rc', rfl, rfl, rfl⟩ := htv'.slices
   have hjl' : (j : Int) < (l.length : Int) := by omega
   obtain ⟨r0, r1, r2, r3, r4, r5, r6, r7, r8, r9, r10⟩ := qcs_eleven (w := wr) (g := bl) (o := off + j * 11) fun q u hu => (HO.out.cell (p := ⟨bl, off + j * 11 + q, none⟩) hbl (by simp)).trans (hcs q u hu)
   obtain ⟨s0, s1, s2, s3, s4, s5, s6, s7, s8, s9, s10⟩ := qcs_eleven (w := wr) (g := bl') (o := off' + j * 11) fun q u hu => (HO.out.cell (p := ⟨bl', off' + j * 11 + q, none⟩) hbl' (by simp)).trans (hcs' q u hu)
   have HTV := Lib.hid (htv.same HO.out)
   have HTV' := Lib.hid (htv'.same HO.out)
   have HI := Lib.hid (IH.out _ (List.getElem_mem hjl))
   clear hcs htv hvs hcs' htv' hvs' hds hds'
   generalize l[j]'hjl = u at *
   have KS := Lib.hid (fun x : Cm wr => HI.out _ _ _ _ _ _ F F' x.1 (HTV.out.same x.o) (HTV'.out.same x.o))
   generalize u.l.length = ln at *
   generalize u.r.length = rn at *
   generalize u.k = uk, u.n = un at *
   generalize u.tm = um at *
   generalize um.k = mk, um.n = mn, um.x = mx, um.y = my, um.S = mS, um.a = ma, um.b = mb at *
   have RR := Lib.hid (And.intro r0 (And.intro r1 (And.intro r2 (And.intro r3 (And.intro r4 (And.intro r5 (And.intro r6 (And.intro r7 (And.intro r8 (And.intro r9 r10))))))))))
   have SS := Lib.hid (And.intro s0 (And.intro s1 (And.intro s2 (And.intro s3 (And.intro s4 (And.intro s5 (And.intro s6 (And.intro s7 (And.intro s8 (And.intro s9 s10))))))))))
   clear r0 r1 r2 r3 r4 r5 r6 r7 r8 r9 r10 s0 s1 s2 s3 s4 s5 s6 s7 s8 s9 s10
   go_wp2_with fail
   have a0 := fun x : Cm wr => Cm.cell RR.out.1 x
   have a1 := fun x : Cm wr => Cm.cell RR.out.2.1 x
   have a2 := fun x : Cm wr => Cm.cell RR.out.2.2.1 x
   have a3 := fun x : Cm wr => Cm.cell RR.out.2.2.2.1 x
   have a4 := fun x : Cm wr => Cm.cell RR.out.2.2.2.2.1 x
   have a5 := fun x : Cm wr => Cm.cell RR.out.2.2.2.2.2.1 x
   have a6 := fun x : Cm wr => Cm.cell RR.out.2.2.2.2.2.2.1 x
   have a7 := fun x : Cm wr => Cm.cell RR.out.2.2.2.2.2.2.2.1 x
   have a8 := fun x : Cm wr => Cm.cell RR.out.2.2.2.2.2.2.2.2.1 x
   have a9 := fun x : Cm wr => Cm.cell RR.out.2.2.2.2.2.2.2.2.2.1 x
   have a10 := fun x : Cm wr => Cm.cell RR.out.2.2.2.2.2.2.2.2.2.2 x
   have b0 := fun x : Cm wr => Cm.cell SS.out.1 x
   have b1 := fun x : Cm wr => Cm.cell SS.out.2.1 x
   have b2 := fun x : Cm wr => Cm.cell SS.out.2.2.1 x
   have b3 := fun x : Cm wr => Cm.cell SS.out.2.2.2.1 x
   have b4 := fun x : Cm wr => Cm.cell SS.out.2.2.2.2.1 x
   have b5 := fun x : Cm wr => Cm.cell SS.out.2.2.2.2.2.1 x
   have b6 := fun x : Cm wr => Cm.cell SS.out.2.2.2.2.2.2.1 x
   have b7 := fun x : Cm wr => Cm.cell SS.out.2.2.2.2.2.2.2.1 x
   have b8 := fun x : Cm wr => Cm.cell SS.out.2.2.2.2.2.2.2.2.1 x
   have b9 := fun x : Cm wr => Cm.cell SS.out.2.2.2.2.2.2.2.2.2.1 x
   have b10 := fun x : Cm wr => Cm.cell SS.out.2.2.2.2.2.2.2.2.2.2 x
   refine wp_region_calm (by kernel_rfl) (by kernel_rfl) ?_
   repeat (go_big_quiet_step ((go_at_call 38; exact calmS (KS.out _))))
   refine wpQuiet_nil ?_
   rintro w2 ⟨⟨w2', o2⟩, e2⟩
   obtain rfl : w2 = w2' := e2
   have HX := Lib.hid (show ∃ j' : Nat, Value.int .i64 ((j : Int) + 1) = .int .i64 (j' : Int) ∧ j' ≤ l.length ∧ Only [] w w2 from ⟨j + 1, by go_num, by omega, HO.out.trans o2 (by simp)⟩)
   clear a0 a1 a2 a3 a4 a5 a6 a7 a8 a9 a10 b0 b1 b2 b3 b4 b5 b6 b7 b8 b9 b10 o2
   go_wp2_with fail
   go_roundw
   case rel => exact HX.out
   case measure => simp [intOf]; omega
  ·have hje : j = l.length := by omega
   subst hje
   clear hj
   go_wp2_with fail
   go_ret
   exact ⟨rfl, HO.out⟩
theorem r5same_one (t : QT) (hg : t.tm.Good ∨ t.tm = .zero) (ih : ∀ u ∈ t.l, QSameOk u) (ih2 : ∀ u ∈ t.r, QSameOk u) : QSameOk t := by
 intro st sl sr st' sl' sr' F F' w h h'
 have rs := store_com
 obtain ⟨S0, S1, S2, LA, lc, RA, rc, rfl, rfl, rfl⟩ := h.slices
 obtain ⟨S0', S1', S2', LA', lc', RA', rc', rfl, rfl, rfl⟩ := h'.slices
 have HT := Lib.hid (fun W (o : Only [] w W) => r3same_any t.tm hg _ _ F F' W (TV.same o h.1) (TV.same o h'.1))
 have HL := Lib.hid (fun W (o : Only [] w W) => r5sameAll_any t.l ih LA LA' lc lc' F F' W (h.2.1.same o) (h'.2.1.same o))
 have HR := Lib.hid (fun W (o : Only [] w W) => r5sameAll_any t.r ih2 RA RA' rc rc' F F' W (h.2.2.same o) (h'.2.2.same o))
 clear ih ih2 h h' hg
 generalize t.l.length = ln at *
 generalize t.r.length = rn at *
 generalize t.k = qk, t.n = qn at *
 generalize t.tm = tm at *
 generalize tm.k = tk, tm.n = tn, tm.x = tx, tm.y = ty, tm.S = tS, tm.a = ta, tm.b = tb at *
 have B1 := Lib.hid ((Bk.made w 88 #[.int .i64 qk, .int .i64 qn, .int .i64 tk, .int .i64 tn, .complex .f64 tx ty, .string tS, .int .i64 ta, .int .i64 tb, .slice S0 S1 S2, .slice LA ln lc, .slice RA rn rc]).alloc (.cells #[.int .i64 qk, .int .i64 qn, .int .i64 tk, .int .i64 tn, .complex .f64 tx ty, .string tS, .int .i64 ta, .int .i64 tb, .slice S0' S1' S2', .slice LA' ln lc', .slice RA' rn rc'] 88))
 have B2 := Lib.hid (Bk.madeAt (w := w.alloc (.cells #[.int .i64 qk, .int .i64 qn, .int .i64 tk, .int .i64 tn, .complex .f64 tx ty, .string tS, .int .i64 ta, .int .i64 tb, .slice S0 S1 S2, .slice LA ln lc, .slice RA rn rc] 88)) (t := 88) (cs := #[.int .i64 qk, .int .i64 qn, .int .i64 tk, .int .i64 tn, .complex .f64 tx ty, .string tS, .int .i64 ta, .int .i64 tb, .slice S0' S1' S2', .slice LA' ln lc', .slice RA' rn rc']) (b := w.heap.size + 1) (by simp))
 have O0 := Lib.hid (((Only.refl [] w).alloc (.cells #[.int .i64 qk, .int .i64 qn, .int .i64 tk, .int .i64 tn, .complex .f64 tx ty, .string tS, .int .i64 ta, .int .i64 tb, .slice S0 S1 S2, .slice LA ln lc, .slice RA rn rc] 88)).alloc (.cells #[.int .i64 qk, .int .i64 qn, .int .i64 tk, .int .i64 tn, .complex .f64 tx ty, .string tS, .int .i64 ta, .int .i64 tb, .slice S0' S1' S2', .slice LA' ln lc', .slice RA' rn rc'] 88))
 go_enter Tryz.func38, Tryz.ntmps38
 go_wp2_with fail
 (with_reducible refine (HT.out _ O0.out).mono ?_)
 rintro e w1 ⟨rfl, o1⟩
 have O1 := Lib.hid (O0.out.trans o1 (by simp))
 have C1 := Lib.hid (B1.out.only o1 (by simp))
 have C2 := Lib.hid (B2.out.only o1 (by simp))
 obtain ⟨z0, z1, z2, z3, z4, z5, z6, z7, z8, z9, z10⟩ := C1.out.elevenH
 obtain ⟨y0, y1, y2, y3, y4, y5, y6, y7, y8, y9, y10⟩ := C2.out.elevenH
 clear o1
 go_wp2_with fail
 (with_reducible refine (HL.out _ O1.out).mono ?_)
 rintro e w2 ⟨rfl, o2⟩
 have O2 := Lib.hid (O1.out.trans o2 (by simp))
 have D1 := Lib.hid (C1.out.only o2 (by simp))
 have D2 := Lib.hid (C2.out.only o2 (by simp))
 clear z0 z1 z2 z3 z4 z5 z6 z7 z8 z9 z10 y0 y1 y2 y3 y4 y5 y6 y7 y8 y9 y10 o2
 obtain ⟨z0, z1, z2, z3, z4, z5, z6, z7, z8, z9, z10⟩ := D1.out.elevenH
 obtain ⟨y0, y1, y2, y3, y4, y5, y6, y7, y8, y9, y10⟩ := D2.out.elevenH
 go_wp2_with fail
 (with_reducible refine (HR.out _ O2.out).mono ?_)
 rintro e w3 ⟨rfl, o3⟩
 have O3 := Lib.hid (O2.out.trans o3 (by simp))
 clear o3 z0 z1 z2 z3 z4 z5 z6 z7 z8 z9 z10 y0 y1 y2 y3 y4 y5 y6 y7 y8 y9 y10
 go_wp2_with fail
 go_ret
 exact ⟨rfl, O3.out⟩
theorem r5same_any (t : QT) (hg : t.Good) : QSameOk t := by
 revert hg
 refine QT.ind (P := fun t => t.Good → QSameOk t) (fun t ht hg => ?_) (fun k l r ih ih2 hg => ?_) t
 ·refine r5same_one t ?_ ?_ ?_
  ·cases t <;> first | exact .inr rfl | (unfold QT.Good at hg; exact .inl hg)
  ·cases t <;> first | (intro u hu; cases hu; done) | exact absurd rfl (ht _ _ _)
  ·cases t <;> first | (intro u hu; cases hu; done) | exact absurd rfl (ht _ _ _)
 ·have h1 := QGoods.iff.1 hg.l
  have h2 := QGoods.iff.1 hg.r
  exact r5same_one _ (.inr rfl) (fun u hu => ih u hu (h1 u hu)) (fun u hu => ih2 u hu (h2 u hu))
open Go.RowKit
theorem r7in_any (i : In) (hg : i.Good) (st sa st' sa' : Value) (F F' : Nat → Prop) (w : World) (ht : TV w F i.t st) (ha : AL w F i.arms sa) (ht' : TV w F' i.t st') (ha' : AL w F' i.arms sa') :
 Calls Tryz.prog 14 #[.agg (ics i.op i.a i.b i.t st sa), .agg (ics i.op i.a i.b i.t st' sa')] w fun e w' => e = .returned (.bool true) ∧ Only [] w w' := by
 have rs := store_com
 have hgt : i.t.Good ∨ i.t = .zero := by
  by_cases h1 : i.op = 1
  ·exact .inl (hg.t1 h1)
  ·exact .inr (hg.t0 h1)
 obtain ⟨S0, S1, S2, rfl⟩ := ht.slice
 obtain ⟨S0', S1', S2', rfl⟩ := ht'.slice
 obtain ⟨A, c, rfl, hlc, hcap, hrows⟩ := ha.mk arm_len
 obtain ⟨A', c', rfl, hlc', hcap', hrows'⟩ := ha'.mk arm_len
 have HT := Lib.hid (fun W (o : Only [] w W) => r3same_any i.t hgt _ _ F F' W (TV.same o ht) (TV.same o ht'))
 have H1 := Lib.hid hrows
 have H2 := Lib.hid hrows'
 have HGA := Lib.hid hg.r1
 clear hg hgt ht ha ht' ha' hrows hrows'
 unfold ics
 generalize i.arms = l at *
 generalize i.op = op, i.a = ia, i.b = ib at *
 generalize i.t = tm at *
 generalize tm.k = tk, tm.n = tn, tm.x = tx, tm.y = ty, tm.S = tS, tm.a = ta, tm.b = tb at *
 obtain ⟨n, hn⟩ : ∃ n, l.length = n := ⟨_, rfl⟩
 rw [hn] at hlc hlc' ⊢
 have HN := Lib.hid hn
 have hn64 : n ≤ 9223372036854775807 := by omega
 clear hn
 have B1 := Lib.hid ((Bk.made w 55 #[.int .i64 op, .int .i64 ia, .int .i64 ib, .int .i64 tk, .int .i64 tn, .complex .f64 tx ty, .string tS, .int .i64 ta, .int .i64 tb, .slice S0 S1 S2, .slice A n c]).alloc (.cells #[.int .i64 op, .int .i64 ia, .int .i64 ib, .int .i64 tk, .int .i64 tn, .complex .f64 tx ty, .string tS, .int .i64 ta, .int .i64 tb, .slice S0' S1' S2', .slice A' n c'] 55))
 have B2 := Lib.hid (Bk.madeAt (w := w.alloc (.cells #[.int .i64 op, .int .i64 ia, .int .i64 ib, .int .i64 tk, .int .i64 tn, .complex .f64 tx ty, .string tS, .int .i64 ta, .int .i64 tb, .slice S0 S1 S2, .slice A n c] 55)) (t := 55) (cs := #[.int .i64 op, .int .i64 ia, .int .i64 ib, .int .i64 tk, .int .i64 tn, .complex .f64 tx ty, .string tS, .int .i64 ta, .int .i64 tb, .slice S0' S1' S2', .slice A' n c']) (b := w.heap.size + 1) (by simp))
 have O0 := Lib.hid (((Only.refl [] w).alloc (.cells #[.int .i64 op, .int .i64 ia, .int .i64 ib, .int .i64 tk, .int .i64 tn, .complex .f64 tx ty, .string tS, .int .i64 ta, .int .i64 tb, .slice S0 S1 S2, .slice A n c] 55)).alloc (.cells #[.int .i64 op, .int .i64 ia, .int .i64 ib, .int .i64 tk, .int .i64 tn, .complex .f64 tx ty, .string tS, .int .i64 ta, .int .i64 tb, .slice S0' S1' S2', .slice A' n c'] 55))
 go_enter Tryz.func14, Tryz.ntmps14
 go_wp2_with fail
 (with_reducible refine (HT.out _ O0.out).mono ?_)
 rintro e w1 ⟨rfl, o1⟩
 have O1 := Lib.hid (O0.out.trans o1 (by simp))
 have C1 := Lib.hid (B1.out.only o1 (by simp))
 have C2 := Lib.hid (B2.out.only o1 (by simp))
 have d5 := C1.out.cell0 (i := 10) rfl
 have d6 := C2.out.cell0 (i := 10) rfl
 clear o1
 go_wp2_with fail
 clear d5 d6
 have hlen := HN.out
 subst hlen
 go_loopw [5] (fun v wr => ∃ j : Nat, v = .int .i64 j ∧ j ≤ l.length ∧ Only [] w1 wr) (fun v _ => l.length - (intOf v).toNat)
 case atStart => exact ⟨0, rfl, Nat.zero_le _, Only.refl _ _⟩
 case round =>
  obtain ⟨j, rfl, hj, ho⟩ := hrel
  have HO := Lib.hid (O1.out.trans ho (by simp))
  have HP := Lib.hid ho
  have D1 := Lib.hid (C1.out.only ho (by simp))
  have D2 := Lib.hid (C2.out.only ho (by simp))
  have d5 := D1.out.cell0 (i := 10) rfl
  have d6 := D2.out.cell0 (i := 10) rfl
  clear ho
  by_cases hjl : j < l.length
  ·rcases H1.out with h0 | ⟨bl, off, rfl, hbl, _, hvs⟩
   ·rw [h0] at hjl; simp at hjl
   rcases H2.out with h0 | ⟨bl', off', rfl, hbl', _, hvs'⟩
   ·rw [h0] at hjl; simp at hjl
   obtain ⟨us, hds, hcs⟩ := hvs j (l[j]'hjl) (List.getElem?_eq_getElem hjl)
   obtain ⟨us', hds', hcs'⟩ := hvs' j (l[j]'hjl) (List.getElem?_eq_getElem hjl)
   obtain ⟨st, sl, sr, rfl, htv⟩ := arm_cells _ hds
   obtain ⟨st', sl', sr', rfl, htv'⟩ := arm_cells _ hds'
   have htv : PV w F (l[j]'hjl).pat st sl sr := htv
   have htv' : PV w F' (l[j]'hjl).pat st' sl' sr' := htv'
   obtain ⟨Q0, Q1, Q2, LA, lc, RA, rc, rfl, rfl, rfl⟩ := htv.slices
   obtain ⟨Q0', Q1', Q2', LA', lc', RA', rc', rfl, rfl, rfl⟩ := htv'.slices
   have hjl' : (j : Int) < (l.length : Int) := by omega
   obtain ⟨r0, r1, r2, r3, r4, r5, r6, r7, r8, r9, r10, r11⟩ := acs_twelve (w := wr) (g := bl) (o := off + j * 12) fun q u hu => (HO.out.cell (p := ⟨bl, off + j * 12 + q, none⟩) hbl (by simp)).trans (hcs q u hu)
   obtain ⟨s0, s1, s2, s3, s4, s5, s6, s7, s8, s9, s10, s11⟩ := acs_twelve (w := wr) (g := bl') (o := off' + j * 12) fun q u hu => (HO.out.cell (p := ⟨bl', off' + j * 12 + q, none⟩) hbl' (by simp)).trans (hcs' q u hu)
   have HTV := Lib.hid (htv.same HO.out)
   have HTV' := Lib.hid (htv'.same HO.out)
   have HGp := Lib.hid (HGA.out _ (List.getElem_mem hjl)).1
   clear hcs htv hvs hcs' htv' hvs' hds hds'
   generalize l[j]'hjl = v at *
   generalize v.goes = gz at *
   generalize v.pat = u at *
   have KS := Lib.hid (fun x : Cm wr => r5same_any u HGp.out _ _ _ _ _ _ F F' x.1 (HTV.out.same x.o) (HTV'.out.same x.o))
   generalize u.l.length = ln at *
   generalize u.r.length = rn at *
   generalize u.k = uk, u.n = un at *
   generalize u.tm = um at *
   generalize um.k = mk, um.n = mn, um.x = mx, um.y = my, um.S = mS, um.a = ma, um.b = mb at *
   have RR := Lib.hid (And.intro r0 (And.intro r1 (And.intro r2 (And.intro r3 (And.intro r4 (And.intro r5 (And.intro r6 (And.intro r7 (And.intro r8 (And.intro r9 (And.intro r10 (r11))))))))))))
   have SS := Lib.hid (And.intro s0 (And.intro s1 (And.intro s2 (And.intro s3 (And.intro s4 (And.intro s5 (And.intro s6 (And.intro s7 (And.intro s8 (And.intro s9 (And.intro s10 (s11))))))))))))
   clear r0 r1 r2 r3 r4 r5 r6 r7 r8 r9 r10 r11 s0 s1 s2 s3 s4 s5 s6 s7 s8 s9 s10 s11
   go_wp2_with fail
   have a0 := fun x : Cm wr => Cm.cell RR.out.1 x
   have a1 := fun x : Cm wr => Cm.cell RR.out.2.1 x
   have a2 := fun x : Cm wr => Cm.cell RR.out.2.2.1 x
   have a3 := fun x : Cm wr => Cm.cell RR.out.2.2.2.1 x
   have a4 := fun x : Cm wr => Cm.cell RR.out.2.2.2.2.1 x
   have a5 := fun x : Cm wr => Cm.cell RR.out.2.2.2.2.2.1 x
   have a6 := fun x : Cm wr => Cm.cell RR.out.2.2.2.2.2.2.1 x
   have a7 := fun x : Cm wr => Cm.cell RR.out.2.2.2.2.2.2.2.1 x
   have a8 := fun x : Cm wr => Cm.cell RR.out.2.2.2.2.2.2.2.2.1 x
   have a9 := fun x : Cm wr => Cm.cell RR.out.2.2.2.2.2.2.2.2.2.1 x
   have a10 := fun x : Cm wr => Cm.cell RR.out.2.2.2.2.2.2.2.2.2.2.1 x
   have a11 := fun x : Cm wr => Cm.cell RR.out.2.2.2.2.2.2.2.2.2.2.2 x
   have b0 := fun x : Cm wr => Cm.cell SS.out.1 x
   have b1 := fun x : Cm wr => Cm.cell SS.out.2.1 x
   have b2 := fun x : Cm wr => Cm.cell SS.out.2.2.1 x
   have b3 := fun x : Cm wr => Cm.cell SS.out.2.2.2.1 x
   have b4 := fun x : Cm wr => Cm.cell SS.out.2.2.2.2.1 x
   have b5 := fun x : Cm wr => Cm.cell SS.out.2.2.2.2.2.1 x
   have b6 := fun x : Cm wr => Cm.cell SS.out.2.2.2.2.2.2.1 x
   have b7 := fun x : Cm wr => Cm.cell SS.out.2.2.2.2.2.2.2.1 x
   have b8 := fun x : Cm wr => Cm.cell SS.out.2.2.2.2.2.2.2.2.1 x
   have b9 := fun x : Cm wr => Cm.cell SS.out.2.2.2.2.2.2.2.2.2.1 x
   have b10 := fun x : Cm wr => Cm.cell SS.out.2.2.2.2.2.2.2.2.2.2.1 x
   have b11 := fun x : Cm wr => Cm.cell SS.out.2.2.2.2.2.2.2.2.2.2.2 x
   have c5 : ∀ x : Cm wr, x.1.cell? ⟨w.heap.size, 10, none⟩ = some (.slice (some ⟨bl, off, none⟩) l.length c) := Cm.cell d5
   have c6 : ∀ x : Cm wr, x.1.cell? ⟨w.heap.size + 1, 10, none⟩ = some (.slice (some ⟨bl', off', none⟩) l.length c') := Cm.cell d6
   have eg : (gz != gz) = false := by simp
   refine wp_region_calm (by kernel_rfl) (by kernel_rfl) ?_
   repeat (go_big_quiet_step ((go_at_call 38; exact calmS (KS.out _))))
   refine wpQuiet_nil ?_
   rintro w2 ⟨⟨w2', o2⟩, e2⟩
   obtain rfl : w2 = w2' := e2
   have HX := Lib.hid (show ∃ j' : Nat, Value.int .i64 ((j : Int) + 1) = .int .i64 (j' : Int) ∧ j' ≤ l.length ∧ Only [] w1 w2 from ⟨j + 1, by go_num, by omega, HP.out.trans o2 (by simp)⟩)
   clear a0 a1 a2 a3 a4 a5 a6 a7 a8 a9 a10 a11 b0 b1 b2 b3 b4 b5 b6 b7 b8 b9 b10 b11 c5 c6 d5 d6 o2
   go_wp2_with fail
   go_roundw
   case rel => exact HX.out
   case measure => simp [intOf]; omega
  ·have hje : j = l.length := by omega
   subst hje
   clear hj
   go_wp2_with fail
   go_ret
   exact ⟨rfl, HO.out⟩
end Go.Proofs.YtcdefnbehlcgeaaGreatDoor
