/- The document: Check of any module that bytes give.. -/
import Derived.Test.YtcdefnbehlcgeaaGreatDoorWbk
set_option maxHeartbeats 16000000
set_option maxRecDepth 20000
set_option linter.unusedSimpArgs false
set_option linter.unusedVariables false
namespace Go.Proofs.YtcdefnbehlcgeaaGreatDoor
open Go.RowKit
theorem hd_yes {nm : ByteArray} {fs : List Fu} (h : hdOk ⟨nm, fs⟩ = true) : 1 ≤ fs.length ∧ fs.length ≤ 64 ∧ ∀ f ∈ fs, fnOk f = true := by
 unfold hdOk at h
 simp only [Bool.and_eq_true, decide_eq_true_eq] at h
 refine ⟨h.1.2.1, h.1.2.2, fun f hf => ?_⟩
 obtain ⟨i, hi, rfl⟩ := List.getElem_of_mem hf
 have := List.all_eq_true.1 h.2 i (List.mem_range.2 hi)
 rw [hdAt_eq hi, Bool.and_eq_true] at this
 exact this.1
def ToR2 (w : World) (R : List Int) (p : Int → Bool) (B : Bool) (v : Value) (wr : World) : Prop :=
 ∃ j : Nat, v = .int .i64 j ∧ j ≤ R.length ∧ (R.drop j).all p = B ∧ Only [] w wr
theorem r6check_go (nm : ByteArray) (FA : Option Addr) (cf : Nat) (fs : List Fu) (hg : (⟨nm, fs⟩ : Md).Good) (F : Nat → Prop) (C : Int) (w : World) (hf : FL w F fs (.slice FA fs.length cf)) (hF : ∀ b, F b → b < w.heap.size) (hC : mchk ⟨nm, fs⟩ = C) :
 Calls Tryz.prog 13 #[.agg #[.string nm, .slice FA fs.length cf]] w fun e w' => MkE w C e w' := by
 have rs := store_com
 have HC := Lib.hid hC
 have HFL := Lib.hid (fun W (o : Only [] w W) => hf.same o)
 have HFF := Lib.hid (fun W (o : Only [] w W) b hb => Nat.lt_of_lt_of_le (hF b hb) o.size)
 have HG := Lib.hid hg.funcs
 have hl0 : fs.length ≤ 262144 := hg.len
 obtain ⟨r1, hr1⟩ : ∃ r1, hdOk ⟨nm, fs⟩ = r1 := ⟨_, rfl⟩
 have HHt := Lib.hid (fun (h : hdOk ⟨nm, fs⟩ = true) W (o : Only [] w W) => heads_any nm FA cf fs hg F 0 W (hf.same o) (by rw [h]; rfl))
 have HHf := Lib.hid (fun (h : hdOk ⟨nm, fs⟩ = false) W (o : Only [] w W) => heads_any nm FA cf fs hg F 60 W (hf.same o) (by rw [h]; rfl))
 have HR1 := Lib.hid hr1
 have BM := Lib.hid (Bk.made w 24 #[.string nm, .slice FA fs.length cf])
 have O0 := Lib.hid ((Only.refl [] w).alloc (.cells #[.string nm, .slice FA fs.length cf] 24))
 have m0 := BM.out.cell0 (i := 0) rfl
 have m1 := BM.out.cell0 (i := 1) rfl
 clear hC hF hg hr1
 cases r1 with
 | false =>
  have HE := Lib.hid (show (60 : Int) = C by rw [← HC.out]; unfold mchk; rw [if_pos HR1.out])
  clear hf
  go_enter Tryz.func13, Tryz.ntmps13
  go_wp2_with fail
  (with_reducible refine (HHf.out HR1.out _ O0.out).mono ?_)
  rintro e w1 ⟨x, rfl, o1⟩
  have O1 := Lib.hid (O0.out.trans o1 (by simp))
  clear o1
  go_wp2_with fail
  exact bodyPost_ret (v := .tuple #[.int .i64 60, .int .i64 x, .int .i64 0]) (by simp [results, Tryz.results13, go_sem]) rfl ⟨x, 0, by rw [HE.out], O1.out⟩
 | true =>
  have hpos := (hd_yes HR1.out).1
  obtain ⟨bl, off, sc0, rfl, h2, h3, -, -, -, -, -, -⟩ := fcs_at hf (show 0 < fs.length by omega)
  have HN := Lib.hid (fun j (hj : j < fs.length) => show ∃ sa sc, IL w F (fs[j]'hj).code (.slice sa (fs[j]'hj).code.length sc) ∧ w.cell? ⟨bl, off + j * 4, none⟩ = some (.string (fs[j]'hj).name) ∧ w.cell? ⟨bl, off + j * 4 + 1, none⟩ = some (.int .i64 (fs[j]'hj).params) ∧ w.cell? ⟨bl, off + j * 4 + 2, none⟩ = some (.int .i64 (fs[j]'hj).locals) ∧ w.cell? ⟨bl, off + j * 4 + 3, none⟩ = some (.slice sa (fs[j]'hj).code.length sc) from by
   obtain ⟨bl', off', sc', e, -, -, -, h7, d0, d1, d2, d3⟩ := fcs_at hf hj
   injection e with e
   injection e with e1 e2
   subst e1 e2
   obtain ⟨sa, cc, rfl⟩ := h7.slice
   exact ⟨_, _, h7, d0, d1, d2, d3⟩)
  have HB := Lib.hid h2
  have hl64 := (hd_yes HR1.out).2.1
  have HFN := Lib.hid (hd_yes HR1.out).2.2
  have HC2 := Lib.hid (show (if firstE fs (insE fs.length) ≠ 0 then firstE fs (insE fs.length) else firstE fs (flE fs)) = C from by
   have h := HC.out
   unfold mchk at h
   rw [if_neg (by rw [HR1.out]; decide)] at h
   exact h)
  obtain ⟨E2, hE2⟩ : ∃ E2, firstE fs (insE fs.length) = E2 := ⟨_, rfl⟩
  obtain ⟨E3, hE3⟩ : ∃ E3, firstE fs (flE fs) = E3 := ⟨_, rfl⟩
  rw [hE2, hE3] at HC2
  have HE2 := Lib.hid hE2
  have HE3 := Lib.hid hE3
  clear hE2 hE3 hf h2 h3 HC
  go_enter Tryz.func13, Tryz.ntmps13
  go_wp2_with fail
  (with_reducible refine (HHt.out HR1.out _ O0.out).mono ?_)
  rintro e w1 ⟨x, rfl, o1⟩
  have O1 := Lib.hid (O0.out.trans o1 (by simp))
  have B1 := Lib.hid (BM.out.only o1 (by simp))
  clear o1 m0 m1
  go_wp2_with fail
  go_loopw [7] (fun v wr => FeRel w1 fs (insE fs.length) E2 v wr) (fun v _ => fs.length - (intOf v).toNat)
  case atStart => exact ⟨0, rfl, Nat.zero_le _, HE2.out, Only.refl _ _⟩
  case round =>
   obtain ⟨wa, ea⟩ : ∃ wa, wa = wr := ⟨_, rfl⟩
   subst ea
   obtain ⟨j, rfl, hj, hq, ho⟩ := hrel
   have AO := Lib.hid (O1.out.trans ho (by simp))
   have AP := Lib.hid ho
   have BA := Lib.hid (B1.out.only ho (by simp))
   have AQ := Lib.hid hq
   have m0 := BA.out.cell0 (i := 0) rfl
   have m1 := BA.out.cell0 (i := 1) rfl
   clear ho hq
   by_cases hjl : j < fs.length
   ·obtain ⟨CA, cc, hil, d0, d1, d2, d3⟩ := HN.out j hjl
    have y0 := (AO.out.cell (p := ⟨bl, off + j * 4, none⟩) HB.out (by simp)).trans d0
    have y1 := (AO.out.cell (p := ⟨bl, off + j * 4 + 1, none⟩) HB.out (by simp)).trans d1
    have y2 := (AO.out.cell (p := ⟨bl, off + j * 4 + 2, none⟩) HB.out (by simp)).trans d2
    have y3 := (AO.out.cell (p := ⟨bl, off + j * 4 + 3, none⟩) HB.out (by simp)).trans d3
    have hjl' : (j : Int) < (fs.length : Int) := by omega
    have hG := HG.out _ (List.getElem_mem hjl)
    have HCG := Lib.hid hG.code
    have hcl : (fs[j]'hjl).code.length ≤ 262144 := hG.len
    obtain ⟨r, hr⟩ : ∃ r, insE fs.length (fs[j]'hjl) = r := ⟨_, rfl⟩
    have hq := AQ.out
    rw [List.drop_eq_getElem_cons hjl, firstE_cons, hr] at hq
    have AQ2 := Lib.hid hq
    have HRC := Lib.hid (show r ≠ 0 → r = C from fun hz => by
     have h := AQ2.out
     rw [if_pos hz] at h
     have h2 := HC2.out
     rw [if_pos (by rw [← h]; exact hz)] at h2
     rw [h, h2])
    unfold insE at hr
    have HIL := Lib.hid hil
    have HRR := Lib.hid hr
    clear hq hr hG d0 d1 d2 d3 hil
    generalize fs[j]'hjl = f at *
    obtain ⟨nf, hnf⟩ : ∃ nf, fs.length = nf := ⟨_, rfl⟩
    have O2 := Lib.hid (AO.out.alloc (.cells (fcs f (.slice CA f.code.length cc)) 45))
    have P2 := Lib.hid (AP.out.alloc (.cells (fcs f (.slice CA f.code.length cc)) 45))
    have BF := Lib.hid (Bk.made wa 45 (fcs f (.slice CA f.code.length cc)))
    have BM2 := Lib.hid (BA.out.alloc (.cells (fcs f (.slice CA f.code.length cc)) 45))
    clear hnf nf
    go_wp2_with fail
    clear m0 m1 y0 y1 y2 y3
    have f3 := BF.out.cell0 (i := 3) rfl
    generalize wa.alloc (.cells (fcs f (.slice CA f.code.length cc)) 45) = wf at *
    go_loopw [9] (fun v wr => CkRel wf f.code (inE fs.length f) r v wr) (fun v _ => f.code.length - (intOf v).toNat)
    case atStart => exact ⟨0, rfl, Nat.zero_le _, HRR.out, Only.refl _ _⟩
    case round =>
     obtain ⟨wb, eb⟩ : ∃ wb, wb = wr := ⟨_, rfl⟩
     subst eb
     obtain ⟨q, rfl, hq, hqq, ho⟩ := hrel
     have BO := Lib.hid (O2.out.trans ho (by simp))
     have BP := Lib.hid (P2.out.trans ho (by simp))
     have BW := Lib.hid ho
     have BQ := Lib.hid hqq
     have BFb := Lib.hid (BF.out.only ho (by simp))
     have BMb := Lib.hid (BM2.out.only ho (by simp))
     have g3 := BFb.out.cell0 (i := 3) rfl
     clear ho hqq f3
     by_cases hql : q < f.code.length
     ·have hin := HIL.out
      obtain ⟨ib, io, TA, tn, tc, AA, an, ac, hA, hib, hFi, -, htv, hal, hcs⟩ := in_at hin hql
      subst hA
      have HGi := Lib.hid (HCG.out _ (List.getElem_mem hql))
      have HIC := Lib.hid (fun (w' : World) (o : Only [] w w') => in_eleven (g := ib) (o := io + q * 11) (w := w') fun z u hu => (o.cell (p := ⟨ib, io + q * 11 + z, none⟩) hib (by simp)).trans (hcs z u hu))
      have HTV := Lib.hid htv
      have HAL := Lib.hid hal
      have hql' : (q : Int) < (f.code.length : Int) := by omega
      have hq2 := BQ.out
      rw [List.drop_eq_getElem_cons hql, firstE_cons] at hq2
      have BQ2 := Lib.hid hq2
      clear hcs htv hal hin hq2
      generalize f.code[q]'hql = i at *
      obtain ⟨rm, hrm⟩ : ∃ rm, mayI fs.length f.locals i = rm := ⟨_, rfl⟩
      have HRM := Lib.hid hrm
      have KM := Lib.hid (fun x : Cm wb => rmay_all i HGi.out nm (some ⟨bl, off, none⟩) fs.length cf f.name f.params f.locals (some ⟨ib, io, none⟩) f.code.length cc (.slice TA tn tc) (.slice AA an ac) F rm x.1 (HTV.out.same (BO.out.trans x.o (by simp))) (HAL.out.same (BO.out.trans x.o (by simp))) (HFF.out _ (BO.out.trans x.o (by simp))) hrm)
      have HJ := Lib.hid (fun W (o : Only [] w W) => rleads_any i HGi.out.rl (.slice TA tn tc) AA an ac F W (HAL.out.same o))
      clear hrm
      go_wp2_with fail
      have u0 : ∀ x : Cm wb, x.1.cell? ⟨w.heap.size, 0, none⟩ = some (.string nm) := Cm.cell (BMb.out.cell0 rfl)
      have u1 : ∀ x : Cm wb, x.1.cell? ⟨w.heap.size, 1, none⟩ = some (.slice (some ⟨bl, off, none⟩) fs.length cf) := Cm.cell (BMb.out.cell0 rfl)
      have t0 : ∀ x : Cm wb, x.1.cell? ⟨wa.heap.size, 0, none⟩ = some (.string f.name) := Cm.cell (BFb.out.cell0 rfl)
      have t1 : ∀ x : Cm wb, x.1.cell? ⟨wa.heap.size, 1, none⟩ = some (.int .i64 f.params) := Cm.cell (BFb.out.cell0 rfl)
      have t2 : ∀ x : Cm wb, x.1.cell? ⟨wa.heap.size, 2, none⟩ = some (.int .i64 f.locals) := Cm.cell (BFb.out.cell0 rfl)
      have t3 : ∀ x : Cm wb, x.1.cell? ⟨wa.heap.size, 3, none⟩ = some (.slice (some ⟨ib, io, none⟩) f.code.length cc) := Cm.cell (BFb.out.cell0 rfl)
      have v0 : ∀ x : Cm wb, x.1.cell? ⟨ib, io + q * 11, none⟩ = some (.int .i64 i.op) := fun x => (HIC.out _ (BO.out.trans x.o (by simp))).1
      have v1 : ∀ x : Cm wb, x.1.cell? ⟨ib, io + q * 11 + 1, none⟩ = some (.int .i64 i.a) := fun x => (HIC.out _ (BO.out.trans x.o (by simp))).2.1
      have v2 : ∀ x : Cm wb, x.1.cell? ⟨ib, io + q * 11 + 2, none⟩ = some (.int .i64 i.b) := fun x => (HIC.out _ (BO.out.trans x.o (by simp))).2.2.1
      have v3 : ∀ x : Cm wb, x.1.cell? ⟨ib, io + q * 11 + 3, none⟩ = some (.int .i64 i.t.k) := fun x => (HIC.out _ (BO.out.trans x.o (by simp))).2.2.2.1
      have v4 : ∀ x : Cm wb, x.1.cell? ⟨ib, io + q * 11 + 4, none⟩ = some (.int .i64 i.t.n) := fun x => (HIC.out _ (BO.out.trans x.o (by simp))).2.2.2.2.1
      have v5 : ∀ x : Cm wb, x.1.cell? ⟨ib, io + q * 11 + 5, none⟩ = some (.complex .f64 i.t.x i.t.y) := fun x => (HIC.out _ (BO.out.trans x.o (by simp))).2.2.2.2.2.1
      have v6 : ∀ x : Cm wb, x.1.cell? ⟨ib, io + q * 11 + 6, none⟩ = some (.string i.t.S) := fun x => (HIC.out _ (BO.out.trans x.o (by simp))).2.2.2.2.2.2.1
      have v7 : ∀ x : Cm wb, x.1.cell? ⟨ib, io + q * 11 + 7, none⟩ = some (.int .i64 i.t.a) := fun x => (HIC.out _ (BO.out.trans x.o (by simp))).2.2.2.2.2.2.2.1
      have v8 : ∀ x : Cm wb, x.1.cell? ⟨ib, io + q * 11 + 8, none⟩ = some (.int .i64 i.t.b) := fun x => (HIC.out _ (BO.out.trans x.o (by simp))).2.2.2.2.2.2.2.2.1
      have v9 : ∀ x : Cm wb, x.1.cell? ⟨ib, io + q * 11 + 9, none⟩ = some (.slice TA tn tc) := fun x => (HIC.out _ (BO.out.trans x.o (by simp))).2.2.2.2.2.2.2.2.2.1
      have v10 : ∀ x : Cm wb, x.1.cell? ⟨ib, io + q * 11 + 10, none⟩ = some (.slice AA an ac) := fun x => (HIC.out _ (BO.out.trans x.o (by simp))).2.2.2.2.2.2.2.2.2.2
      refine wp_region_calm (by kernel_rfl) (by kernel_rfl) ?_
      repeat (go_big_quiet_step ((go_at_call 34; exact calmS (KM.out _))))
      refine wpQuiet_nil ?_
      rintro w2 ⟨⟨w2', o2⟩, e2⟩
      obtain rfl : w2 = w2' := e2
      have CO := Lib.hid (BO.out.trans o2 (by simp))
      have CP := Lib.hid (BP.out.trans o2 (by simp))
      have CW := Lib.hid (BW.out.trans o2 (by simp))
      have BFc := Lib.hid (BFb.out.only o2 (by simp))
      have c3 := BFc.out.cell0 (i := 3) rfl
      obtain ⟨i0, i1, i2, i3, i4, i5, i6, i7, i8, i9, i10⟩ := HIC.out _ CO.out
      clear o2 g3 u0 u1 t0 t1 t2 t3 v0 v1 v2 v3 v4 v5 v6 v7 v8 v9 v10 KM
      cases rm with
      | false =>
       have HE := Lib.hid (show (61 : Int) = C by
        have h : (61 : Int) = r := by
         rw [← BQ2.out]
         have : inE fs.length f i = 61 := by unfold inE; rw [if_pos HRM.out]
         rw [this, if_pos (by decide)]
        rw [h]
        exact HRC.out (by rw [← h]; decide))
       go_wp2_with fail
       exact bodyPost_ret (v := .tuple #[.int .i64 61, .int .i64 j, .int .i64 q]) (by simp [results, Tryz.results13, go_sem]) rfl ⟨j, q, by rw [HE.out], CO.out⟩
      | true =>
       go_wp2_with fail
       (with_reducible refine (HJ.out _ CO.out).mono ?_)
       rintro e w3 ⟨RA, rc, rfl, hir, o3⟩
       obtain ⟨RA', rc', hv, hlies⟩ := hir.slice
       injection hv with hv1 hv2 hv3
       subst hv1 hv3
       have DO := Lib.hid (CO.out.trans o3 (by simp))
       have DP := Lib.hid (CP.out.trans o3 (by simp))
       have DW := Lib.hid (CW.out.trans o3 (by simp))
       have BFd := Lib.hid (BFc.out.only o3 (by simp))
       have HL := Lib.hid hlies
       obtain ⟨R, hR⟩ : ∃ R, i.to = R := ⟨_, rfl⟩
       rw [hR] at HL ⊢
       have HRT := Lib.hid hR
       have HRl : R.length ≤ 262145 := by
        rw [← HRT.out]
        unfold In.to
        have := HGi.out.rl
        rw [List.length_append, List.length_map]
        split <;> simp <;> omega
       obtain ⟨B, hB⟩ : ∃ B, R.all (fun z => decide (0 ≤ z) && decide (z < (f.code.length : Int))) = B := ⟨_, rfl⟩
       have HBB := Lib.hid hB
       clear hir hlies o3 hB hR c3 i0 i1 i2 i3 i4 i5 i6 i7 i8 i9 i10
       go_wp2_with fail
       go_loopw [11] (fun v wq => ToR2 w3 R (fun z => decide (0 ≤ z) && decide (z < (f.code.length : Int))) B v wq) (fun v _ => R.length - (intOf v).toNat)
       case atStart => exact ⟨0, rfl, Nat.zero_le _, HBB.out, Only.refl _ _⟩
       case round =>
        obtain ⟨p, rfl, hp, hpa, ho⟩ := hrel
        have EA := Lib.hid hpa
        have EO := Lib.hid ho
        have BFe := Lib.hid (BFd.out.only ho (by simp))
        clear hpa ho
        by_cases hpl : p < R.length
        ·obtain ⟨z, hz⟩ : ∃ z, R[p]? = some z := ⟨_, List.getElem?_eq_getElem hpl⟩
         obtain ⟨zb, rfl, cz, hbz⟩ := HL.out p z hz
         have dz : wr.cell? ⟨zb, p, none⟩ = some (.int .i64 z) := (EO.out.cell (p := ⟨zb, p, none⟩) (by obtain ⟨cs, hcs⟩ := hbz; exact hcs.lt) (by simp)).trans cz
         have hea := EA.out
         rw [List.drop_eq_getElem_cons hpl, List.all_cons, show R[p]'hpl = z from by rw [List.getElem?_eq_getElem hpl] at hz; exact Option.some.inj hz] at hea
         have EB := Lib.hid hea
         have hpl' : (p : Int) < (R.length : Int) := by omega
         have s1 : ∀ x : Cm wr, x.1.cell? ⟨zb, p, none⟩ = some (.int .i64 z) := Cm.cell dz
         have s2 : ∀ x : Cm wr, x.1.cell? ⟨zb, 0 + p, none⟩ = some (.int .i64 z) := by rw [Nat.zero_add]; exact s1
         have s3 : ∀ x : Cm wr, x.1.cell? ⟨wa.heap.size, 3, none⟩ = some (.slice (some ⟨ib, io, none⟩) f.code.length cc) := Cm.cell (BFe.out.cell0 rfl)
         have HBAD := Lib.hid (show ¬ (0 ≤ z ∧ z < (f.code.length : Int)) → (62 : Int) = C from fun hn => by
          have h : (62 : Int) = r := by
           rw [← BQ2.out]
           have : inE fs.length f i = 62 := by
            unfold inE
            rw [if_neg (by rw [HRM.out]; decide), HRT.out, HBB.out, ← EB.out, show (decide (0 ≤ z) && decide (z < (f.code.length : Int))) = false from by
             rw [Bool.eq_false_iff]
             intro h'
             rw [Bool.and_eq_true, decide_eq_true_eq, decide_eq_true_eq] at h'
             exact hn h', Bool.false_and, if_pos rfl]
           rw [this, if_pos (by decide)]
          rw [h]
          exact HRC.out (by rw [← h]; decide))
         clear hea hz dz cz hbz
         by_cases hz1 : z < 0
         ·have e1 : decide (z < 0) = true := decide_eq_true hz1
          have HE := Lib.hid (HBAD.out (by omega))
          go_wp2_with fail
          refine wp_region_calm (by kernel_rfl) (by kernel_rfl) ?_
          repeat (go_big_quiet_step (fail))
          refine wpQuiet_nil ?_
          rintro w5 ⟨⟨w5', o5⟩, e5⟩
          obtain rfl : w5 = w5' := e5
          clear s1 s2 s3
          have O5 := Lib.hid ((DO.out.trans EO.out (by simp)).trans o5 (by simp))
          go_wp2_with fail
          exact bodyPost_ret (v := .tuple #[.int .i64 62, .int .i64 j, .int .i64 q]) (by simp [results, Tryz.results13, go_sem]) rfl ⟨j, q, by rw [HE.out], O5.out⟩
         by_cases hz2 : (f.code.length : Int) ≤ z
         ·have e1 : decide (z < 0) = false := decide_eq_false hz1
          have e2 : decide ((f.code.length : Int) ≤ z) = true := decide_eq_true hz2
          have HE := Lib.hid (HBAD.out (by omega))
          go_wp2_with fail
          refine wp_region_calm (by kernel_rfl) (by kernel_rfl) ?_
          repeat (go_big_quiet_step (fail))
          refine wpQuiet_nil ?_
          rintro w5 ⟨⟨w5', o5⟩, e5⟩
          obtain rfl : w5 = w5' := e5
          clear s1 s2 s3
          have O5 := Lib.hid ((DO.out.trans EO.out (by simp)).trans o5 (by simp))
          go_wp2_with fail
          exact bodyPost_ret (v := .tuple #[.int .i64 62, .int .i64 j, .int .i64 q]) (by simp [results, Tryz.results13, go_sem]) rfl ⟨j, q, by rw [HE.out], O5.out⟩
         ·have e1 : decide (z < 0) = false := decide_eq_false hz1
          have e2 : decide ((f.code.length : Int) ≤ z) = false := decide_eq_false hz2
          have EB2 := Lib.hid (show (R.drop (p + 1)).all (fun z => decide (0 ≤ z) && decide (z < (f.code.length : Int))) = B from by
           have h := EB.out
           rw [decide_eq_true (p := 0 ≤ z) (by omega), decide_eq_true (p := z < (f.code.length : Int)) (by omega)] at h
           simpa using h)
          go_wp2_with fail
          refine wp_region_calm (by kernel_rfl) (by kernel_rfl) ?_
          repeat (go_big_quiet_step (fail))
          refine wpQuiet_nil ?_
          rintro w5 ⟨⟨w5', o5⟩, e5⟩
          obtain rfl : w5 = w5' := e5
          clear s1 s2 s3
          have HX := Lib.hid (show ToR2 w3 R (fun z => decide (0 ≤ z) && decide (z < (f.code.length : Int))) B (.int .i64 ((p : Int) + 1)) w5 from ⟨p + 1, by go_num, by omega, EB2.out, EO.out.trans o5 (by simp)⟩)
          clear o5
          go_wp2_with fail
          go_roundw
          case rel => exact HX.out
          case measure => simp [intOf]; omega
        ·have hpe : p = R.length := by omega
         subst hpe
         have hBt : true = B := by rw [← EA.out, List.drop_length]; rfl
         have HX := Lib.hid (show CkRel wf f.code (inE fs.length f) r (.int .i64 ((q : Int) + 1)) wr from ⟨q + 1, by go_num, by omega, by
          have h := BQ2.out
          have : inE fs.length f i = 0 := by
           unfold inE
           rw [if_neg (by rw [HRM.out]; decide), HRT.out, HBB.out, ← hBt, if_neg (by decide)]
          rw [this, if_neg (by decide)] at h
          exact h, DW.out.trans EO.out (by simp)⟩)
         clear hBt hp
         go_wp2_with fail
         go_roundw
         case rel => exact HX.out
         case measure => simp [intOf]; omega
     ·have hqe : q = f.code.length := by omega
      subst hqe
      have hr0 : (0 : Int) = r := by rw [← BQ.out, List.drop_length]; rfl
      have HX := Lib.hid (show FeRel w1 fs (insE fs.length) E2 (.int .i64 ((j : Int) + 1)) wb from ⟨j + 1, by go_num, by omega, by have h := AQ2.out; rw [if_neg (fun h => h hr0.symm)] at h; exact h, BP.out⟩)
      clear hr0 hq
      go_wp2_with fail
      go_roundw
      case rel => exact HX.out
      case measure => simp [intOf]; omega
   ·have hje : j = fs.length := by omega
    have hE0 : (0 : Int) = E2 := by rw [← AQ.out, hje, List.drop_length]; rfl
    have HC3 := Lib.hid (show E3 = C from by
     have h := HC2.out
     rw [if_neg (fun h => h hE0.symm)] at h
     exact h)
    have HOK := Lib.hid (code_ok HG.out hl64 HFN.out (firstE_zero (by rw [HE2.out, ← hE0])))
    clear hE0
    subst hje
    clear hj
    go_wp2_with fail
    clear m0 m1
    go_loopw [12] (fun v wz => FeRel wa fs (flE fs) E3 v wz) (fun v _ => fs.length - (intOf v).toNat)
    case atStart => exact ⟨0, rfl, Nat.zero_le _, HE3.out, Only.refl _ _⟩
    case round =>
     obtain ⟨wz, ez⟩ : ∃ wz, wz = wr := ⟨_, rfl⟩
     subst ez
     obtain ⟨j, rfl, hj, hq, ho⟩ := hrel
     have ZO := Lib.hid (AO.out.trans ho (by simp))
     have ZP := Lib.hid ho
     have BZ := Lib.hid (BA.out.only ho (by simp))
     have ZQ := Lib.hid hq
     have m0 := BZ.out.cell0 (i := 0) rfl
     have m1 := BZ.out.cell0 (i := 1) rfl
     clear ho hq
     by_cases hjl : j < fs.length
     ·have hfk := fnOk_parts (HFN.out _ (List.getElem_mem hjl))
      obtain ⟨CA, cc, hil, d0, d1, d2, d3⟩ := HN.out j hjl
      have y0 := (ZO.out.cell (p := ⟨bl, off + j * 4, none⟩) HB.out (by simp)).trans d0
      have y1 := (ZO.out.cell (p := ⟨bl, off + j * 4 + 1, none⟩) HB.out (by simp)).trans d1
      have y2 := (ZO.out.cell (p := ⟨bl, off + j * 4 + 2, none⟩) HB.out (by simp)).trans d2
      have y3 := (ZO.out.cell (p := ⟨bl, off + j * 4 + 3, none⟩) HB.out (by simp)).trans d3
      have hjl' : (j : Int) < (fs.length : Int) := by omega
      have HBZ := Lib.hid (show bl < wz.heap.size from Nat.lt_of_lt_of_le HB.out ZO.out.size)
      obtain ⟨r, hr⟩ : ∃ r, flE fs (fs[j]'hjl) = r := ⟨_, rfl⟩
      have HM := Lib.hid (fun W (o : Only [] w W) => rflow_any nm (some ⟨bl, off, none⟩) fs.length cf fs F (fs[j]'hjl) (.slice CA (fs[j]'hjl).code.length cc) (fs[j]'hjl).locals r W (HFL.out W o) (hil.same o) (HOK.out _ (List.getElem_mem hjl)) hfk.2.2.1 hfk.2.2.2 hr)
      have hq := ZQ.out
      rw [List.drop_eq_getElem_cons hjl, firstE_cons, hr] at hq
      have ZQ2 := Lib.hid hq
      clear hq hr hfk d0 d1 d2 d3 hil
      generalize fs[j]'hjl = f at *
      go_wp2_with fail
      have H6 := Lib.hid (show ∀ w', Only [] wz w' → (w'.cell? ⟨w.heap.size, 0, none⟩ = some (.string nm) ∧ w'.cell? ⟨w.heap.size, 1, none⟩ = some (.slice (some ⟨bl, off, none⟩) fs.length cf) ∧ w'.cell? ⟨bl, off + j * 4, none⟩ = some (.string f.name) ∧ w'.cell? ⟨bl, off + j * 4 + 1, none⟩ = some (.int .i64 f.params) ∧ w'.cell? ⟨bl, off + j * 4 + 2, none⟩ = some (.int .i64 f.locals) ∧ w'.cell? ⟨bl, off + j * 4 + 3, none⟩ = some (.slice CA f.code.length cc)) from fun w' o => ⟨(o.cell (p := ⟨w.heap.size, 0, none⟩) BZ.out.lt (by simp)).trans m0, (o.cell (p := ⟨w.heap.size, 1, none⟩) BZ.out.lt (by simp)).trans m1, (o.cell (p := ⟨bl, off + j * 4, none⟩) HBZ.out (by simp)).trans y0, (o.cell (p := ⟨bl, off + j * 4 + 1, none⟩) HBZ.out (by simp)).trans y1, (o.cell (p := ⟨bl, off + j * 4 + 2, none⟩) HBZ.out (by simp)).trans y2, (o.cell (p := ⟨bl, off + j * 4 + 3, none⟩) HBZ.out (by simp)).trans y3⟩)
      have OZ := Lib.hid (Only.refl [] wz)
      go_region_held3 (fun w' => w'.cell? ⟨w.heap.size, 0, none⟩ = some (.string nm) ∧ w'.cell? ⟨w.heap.size, 1, none⟩ = some (.slice (some ⟨bl, off, none⟩) fs.length cf) ∧ w'.cell? ⟨bl, off + j * 4, none⟩ = some (.string f.name) ∧ w'.cell? ⟨bl, off + j * 4 + 1, none⟩ = some (.int .i64 f.params) ∧ w'.cell? ⟨bl, off + j * 4 + 2, none⟩ = some (.int .i64 f.locals) ∧ w'.cell? ⟨bl, off + j * 4 + 3, none⟩ = some (.slice CA f.code.length cc)) (with_reducible (first | exact ⟨by assumption, by assumption, by assumption, by assumption, by assumption, by assumption⟩ | exact H6.out _ OZ.out | exact H6.out _ OZ.out.drew | exact H6.out _ (OZ.out.drewN _) | exact H6.out _ o4 | exact H6.out _ o4.drew | exact H6.out _ (o4.drewN _))) (first | (go_at_call 36; (with_reducible refine (HM.out _ ?_).mono ?_); (focus with_reducible (first | exact ZO.out.drew | exact ZO.out.drewN _ | exact ZO.out)); rintro e w3 ⟨v, x, rfl, o3⟩; have o4 : Only [] wz w3 := (by with_reducible (first | exact OZ.out.drew.trans o3 (by simp) | exact (OZ.out.drewN _).trans o3 (by simp) | exact o3))) | fail)
      all_goals
       have O3 := Lib.hid (ZO.out.trans o4 (by simp))
       have P3 := Lib.hid (ZP.out.trans o4 (by simp))
       clear o3 o4 m0 m1 y0 y1 y2 y3
       by_cases hz : r = 0
       ·have HX := Lib.hid (show FeRel wa fs (flE fs) E3 (.int .i64 ((j : Int) + 1)) w3 from ⟨j + 1, by go_num, by omega, by have h := ZQ2.out; rw [if_neg (fun h => h hz)] at h; exact h, P3.out⟩)
        subst hz
        go_wp2_with fail
        go_roundw
        case rel => exact HX.out
        case measure => simp [intOf]; omega
       ·have e5 : (r != 0) = true := by simpa using hz
        have HE := Lib.hid (show r = C from by
         have h := ZQ2.out
         rw [if_pos hz] at h
         rw [h, HC3.out])
        clear hz
        go_wp2_with fail
        exact bodyPost_ret (v := .tuple #[.int .i64 r, .int .i64 j, .int .i64 x]) (by simp [results, Tryz.results13, go_sem]) rfl ⟨j, x, by rw [HE.out], O3.out⟩
     ·have hje : j = fs.length := by omega
      subst hje
      have HE := Lib.hid (show (0 : Int) = C from by
       have h : (0 : Int) = E3 := by rw [← ZQ.out, List.drop_length]; rfl
       rw [h, HC3.out])
      clear hj
      go_wp2_with fail
      exact bodyPost_ret (v := .tuple #[.int .i64 0, .int .i64 0, .int .i64 0]) (by simp [results, Tryz.results13, go_sem]) rfl ⟨0, 0, by rw [HE.out], ZO.out⟩
theorem r6check_any (m : Md) (hg : m.Good) (us : Array Value) (F : Nat → Prop) (w : World) (hd : DVs w F m.ds us.toList) (hF : ∀ b, F b → b < w.heap.size) :
 Calls Tryz.prog 13 #[.agg us] w fun e w' => MkE w (mchk m) e w' := by
 obtain ⟨sf, hus, hf⟩ := md_parts m hd
 obtain ⟨FA, cf, rfl⟩ := hf.slice
 obtain rfl : us = #[.string m.name, .slice FA m.funcs.length cf] := by
  rw [← Array.toArray_toList (xs := us), hus]
 exact r6check_go m.name FA cf m.funcs hg F _ w hf hF rfl
end Go.Proofs.YtcdefnbehlcgeaaGreatDoor
