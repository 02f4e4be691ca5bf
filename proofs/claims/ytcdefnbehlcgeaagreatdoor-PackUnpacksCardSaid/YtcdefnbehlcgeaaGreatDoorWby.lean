/- The document's Same: of two modules that are one.. The law, given awake.. awake, given what Term and TermOf of a small term answer.. TermOf of a small term.. -/
import Derived.Test.YtcdefnbehlcgeaaGreatDoorWbx
import Derived.Test.YtcdefnbehlcgeaaGreatDoorWbw
set_option maxHeartbeats 8000000
set_option maxRecDepth 20000
set_option linter.unusedSimpArgs false
set_option linter.unusedVariables false
namespace Go.Proofs.YtcdefnbehlcgeaaGreatDoor
open Go.RowKit
theorem fu_all {w : World} {F : Nat → Prop} {fs : List Fu} {FA : Option Addr} {nf cf : Nat} (h : FL w F fs (.slice FA nf cf)) : fs = [] ∨ ∃ bl off, FA = some ⟨bl, off, none⟩ ∧ bl < w.heap.size ∧ ∀ j (hj : j < fs.length), ∃ sa sc, IL w F (fs[j]'hj).code (.slice sa (fs[j]'hj).code.length sc) ∧ w.cell? ⟨bl, off + j * 4, none⟩ = some (.string (fs[j]'hj).name) ∧ w.cell? ⟨bl, off + j * 4 + 1, none⟩ = some (.int .i64 (fs[j]'hj).params) ∧ w.cell? ⟨bl, off + j * 4 + 2, none⟩ = some (.int .i64 (fs[j]'hj).locals) ∧ w.cell? ⟨bl, off + j * 4 + 3, none⟩ = some (.slice sa (fs[j]'hj).code.length sc) := by
 by_cases h0 : fs = []
 ·exact .inl h0
 have hpos : 0 < fs.length := List.length_pos_iff.2 h0
 obtain ⟨bl, off, sc0, rfl, h2, h3, -, -, -, -, -, -⟩ := fcs_at h hpos
 refine .inr ⟨bl, off, rfl, h2, fun j hj => ?_⟩
 obtain ⟨bl', off', sc', e, -, -, -, h7, d0, d1, d2, d3⟩ := fcs_at h hj
 injection e with e
 injection e with e1 e2
 subst e1 e2
 obtain ⟨sa, cc, rfl⟩ := h7.slice
 exact ⟨_, _, h7, d0, d1, d2, d3⟩
def PairF (w : World) (c1 c2 : Array Value) (a b : Value) (wx : World) : Prop := ∃ b1 b2 : Nat, a = .pointer (some ⟨b1, 0, none⟩) ∧ b = .pointer (some ⟨b2, 0, none⟩) ∧ Bk wx b1 45 c1 ∧ Bk wx b2 45 c2 ∧ Only [] w wx
theorem r7same_go (nm : ByteArray) (fs : List Fu) (hg : ∀ f ∈ fs, f.Good) (hl : fs.length ≤ 262144) (FA FA' : Option Addr) (cf cf' : Nat) (F F' : Nat → Prop) (w : World) (h : FL w F fs (.slice FA fs.length cf)) (h' : FL w F' fs (.slice FA' fs.length cf')) :
 Calls Tryz.prog 6 #[.agg #[.string nm, .slice FA fs.length cf], .agg #[.string nm, .slice FA' fs.length cf']] w fun e w' => e = .returned (.bool true) ∧ Only [] w w' := by
 have rs := store_com
 have H1 := Lib.hid (fu_all h)
 have H2 := Lib.hid (fu_all h')
 have HG := Lib.hid hg
 have M1 := Lib.hid ((Bk.made w 24 #[.string nm, .slice FA fs.length cf]).alloc (.cells #[.string nm, .slice FA' fs.length cf'] 24))
 have M2 := Lib.hid (Bk.madeAt (w := w.alloc (.cells #[.string nm, .slice FA fs.length cf] 24)) (t := 24) (cs := #[.string nm, .slice FA' fs.length cf']) (b := w.heap.size + 1) (by simp))
 have O0 := Lib.hid (((Only.refl [] w).alloc (.cells #[.string nm, .slice FA fs.length cf] 24)).alloc (.cells #[.string nm, .slice FA' fs.length cf'] 24))
 clear h h' hg
 go_enter Tryz.func6, Tryz.ntmps6
 go_wp2_with fail
 generalize (w.alloc (.cells #[.string nm, .slice FA fs.length cf] 24)).alloc (.cells #[.string nm, .slice FA' fs.length cf'] 24) = W0 at *
 go_loopw [5] (fun v wr => ∃ j : Nat, v = .int .i64 j ∧ j ≤ fs.length ∧ Only [] W0 wr) (fun v _ => fs.length - (intOf v).toNat)
 case atStart => exact ⟨0, rfl, Nat.zero_le _, Only.refl _ _⟩
 case round =>
  obtain ⟨wa, ea⟩ : ∃ wa, wa = wr := ⟨_, rfl⟩
  subst ea
  obtain ⟨j, rfl, hj, ho⟩ := hrel
  have HO := Lib.hid (O0.out.trans ho (by simp))
  have HP := Lib.hid ho
  have N1 := Lib.hid (M1.out.only ho (by simp))
  have N2 := Lib.hid (M2.out.only ho (by simp))
  have m1 := N1.out.cell0 (i := 1) rfl
  have m2 := N2.out.cell0 (i := 1) rfl
  clear ho
  by_cases hjl : j < fs.length
  ·rcases H1.out with h0 | ⟨bl, off, rfl, hbl, hvs⟩
   ·rw [h0] at hjl; simp at hjl
   rcases H2.out with h0 | ⟨bl', off', rfl, hbl', hvs'⟩
   ·rw [h0] at hjl; simp at hjl
   obtain ⟨CA, cc, hil, d0, d1, d2, d3⟩ := hvs j hjl
   obtain ⟨CA', cc', hil', d0', d1', d2', d3'⟩ := hvs' j hjl
   have hjl' : (j : Int) < (fs.length : Int) := by omega
   have r0 := (HO.out.cell (p := ⟨bl, off + j * 4, none⟩) hbl (by simp)).trans d0
   have r1 := (HO.out.cell (p := ⟨bl, off + j * 4 + 1, none⟩) hbl (by simp)).trans d1
   have r2 := (HO.out.cell (p := ⟨bl, off + j * 4 + 2, none⟩) hbl (by simp)).trans d2
   have r3 := (HO.out.cell (p := ⟨bl, off + j * 4 + 3, none⟩) hbl (by simp)).trans d3
   have s0 := (HO.out.cell (p := ⟨bl', off' + j * 4, none⟩) hbl' (by simp)).trans d0'
   have s1 := (HO.out.cell (p := ⟨bl', off' + j * 4 + 1, none⟩) hbl' (by simp)).trans d1'
   have s2 := (HO.out.cell (p := ⟨bl', off' + j * 4 + 2, none⟩) hbl' (by simp)).trans d2'
   have s3 := (HO.out.cell (p := ⟨bl', off' + j * 4 + 3, none⟩) hbl' (by simp)).trans d3'
   have HIL := Lib.hid hil
   have HIL' := Lib.hid hil'
   have hgf := HG.out _ (List.getElem_mem hjl)
   have HGC := Lib.hid hgf.code
   have hcl : (fs[j]'hjl).code.length ≤ 262144 := hgf.len
   clear hil hil' d0 d1 d2 d3 d0' d1' d2' d3' hvs hvs' hgf
   generalize fs[j]'hjl = f at *
   obtain ⟨fname, fp, fl, code⟩ := f
   dsimp only at r0 r1 r2 r3 s0 s1 s2 s3 HIL HIL' HGC hcl
   go_upto_region 6 with fail
   have H8 := Lib.hid (show ∀ w', Only [] wa w' → (w'.cell? ⟨w.heap.size, 1, none⟩ = some (.slice (some ⟨bl, off, none⟩) fs.length cf) ∧ w'.cell? ⟨w.heap.size + 1, 1, none⟩ = some (.slice (some ⟨bl', off', none⟩) fs.length cf') ∧ w'.cell? ⟨bl, off + j * 4, none⟩ = some (.string fname) ∧ w'.cell? ⟨bl, off + j * 4 + 1, none⟩ = some (.int .i64 fp) ∧ w'.cell? ⟨bl, off + j * 4 + 2, none⟩ = some (.int .i64 fl) ∧ w'.cell? ⟨bl, off + j * 4 + 3, none⟩ = some (.slice CA code.length cc) ∧ w'.cell? ⟨bl', off' + j * 4, none⟩ = some (.string fname) ∧ w'.cell? ⟨bl', off' + j * 4 + 1, none⟩ = some (.int .i64 fp) ∧ w'.cell? ⟨bl', off' + j * 4 + 2, none⟩ = some (.int .i64 fl) ∧ w'.cell? ⟨bl', off' + j * 4 + 3, none⟩ = some (.slice CA' code.length cc')) from fun w' o => ⟨(o.cell (p := ⟨w.heap.size, 1, none⟩) (World.block_lt_of_cell? wa _ m1) (by simp)).trans m1, (o.cell (p := ⟨w.heap.size + 1, 1, none⟩) (World.block_lt_of_cell? wa _ m2) (by simp)).trans m2, (o.cell (p := ⟨bl, off + j * 4, none⟩) (World.block_lt_of_cell? wa _ r0) (by simp)).trans r0, (o.cell (p := ⟨bl, off + j * 4 + 1, none⟩) (World.block_lt_of_cell? wa _ r1) (by simp)).trans r1, (o.cell (p := ⟨bl, off + j * 4 + 2, none⟩) (World.block_lt_of_cell? wa _ r2) (by simp)).trans r2, (o.cell (p := ⟨bl, off + j * 4 + 3, none⟩) (World.block_lt_of_cell? wa _ r3) (by simp)).trans r3, (o.cell (p := ⟨bl', off' + j * 4, none⟩) (World.block_lt_of_cell? wa _ s0) (by simp)).trans s0, (o.cell (p := ⟨bl', off' + j * 4 + 1, none⟩) (World.block_lt_of_cell? wa _ s1) (by simp)).trans s1, (o.cell (p := ⟨bl', off' + j * 4 + 2, none⟩) (World.block_lt_of_cell? wa _ s2) (by simp)).trans s2, (o.cell (p := ⟨bl', off' + j * 4 + 3, none⟩) (World.block_lt_of_cell? wa _ s3) (by simp)).trans s3⟩)
   have OZ := Lib.hid (Only.refl [] wa)
   go_cut [6, 7] (fun a b wx => PairF wa #[.string fname, .int .i64 fp, .int .i64 fl, .slice CA code.length cc] #[.string fname, .int .i64 fp, .int .i64 fl, .slice CA' code.length cc'] a b wx)
   case first =>
    go_region_held3 (fun w' => w'.cell? ⟨w.heap.size, 1, none⟩ = some (.slice (some ⟨bl, off, none⟩) fs.length cf) ∧ w'.cell? ⟨w.heap.size + 1, 1, none⟩ = some (.slice (some ⟨bl', off', none⟩) fs.length cf') ∧ w'.cell? ⟨bl, off + j * 4, none⟩ = some (.string fname) ∧ w'.cell? ⟨bl, off + j * 4 + 1, none⟩ = some (.int .i64 fp) ∧ w'.cell? ⟨bl, off + j * 4 + 2, none⟩ = some (.int .i64 fl) ∧ w'.cell? ⟨bl, off + j * 4 + 3, none⟩ = some (.slice CA code.length cc) ∧ w'.cell? ⟨bl', off' + j * 4, none⟩ = some (.string fname) ∧ w'.cell? ⟨bl', off' + j * 4 + 1, none⟩ = some (.int .i64 fp) ∧ w'.cell? ⟨bl', off' + j * 4 + 2, none⟩ = some (.int .i64 fl) ∧ w'.cell? ⟨bl', off' + j * 4 + 3, none⟩ = some (.slice CA' code.length cc')) (with_reducible (first | exact ⟨by assumption, by assumption, by assumption, by assumption, by assumption, by assumption, by assumption, by assumption, by assumption, by assumption⟩ | exact H8.out _ (by with_reducible (repeat first | exact OZ.out | refine Only.drew ?_ | refine Only.drewN ?_ _ | refine Only.alloc ?_ _)))) (fail)
    all_goals
     go_wp2_with fail
     go_meet
     exact ⟨_, _, rfl, rfl, by with_reducible (repeat first | (refine Bk.madeAt ?_; simp; done) | refine Bk.drew ?_ | refine Bk.drewN ?_ _ | refine Bk.alloc ?_ _), by with_reducible (repeat first | (refine Bk.madeAt ?_; simp; done) | refine Bk.drew ?_ | refine Bk.drewN ?_ _ | refine Bk.alloc ?_ _), by with_reducible (repeat first | exact Only.refl _ _ | refine Only.drew ?_ | refine Only.drewN ?_ _ | refine Only.alloc ?_ _)⟩
   case rest =>
    obtain ⟨b1, b2, rfl, rfl, hb1, hb2, ho2⟩ := hcut
    have F1 := Lib.hid hb1
    have F2 := Lib.hid hb2
    have O2 := Lib.hid (HO.out.trans ho2 (by simp))
    have P2 := Lib.hid (HP.out.trans ho2 (by simp))
    have f10 := hb1.cell0 (i := 0) rfl
    have f11 := hb1.cell0 (i := 1) rfl
    have f12 := hb1.cell0 (i := 2) rfl
    have f13 := hb1.cell0 (i := 3) rfl
    have f20 := hb2.cell0 (i := 0) rfl
    have f21 := hb2.cell0 (i := 1) rfl
    have f22 := hb2.cell0 (i := 2) rfl
    have f23 := hb2.cell0 (i := 3) rfl
    clear hb1 hb2 ho2 m1 m2 r0 r1 r2 r3 s0 s1 s2 s3 H8 OZ
    go_wp2_with fail
    clear f10 f11 f12 f13 f20 f21 f22 f23
    go_loopw [8] (fun v wr => ∃ q : Nat, v = .int .i64 q ∧ q ≤ code.length ∧ Only [] wc wr) (fun v _ => code.length - (intOf v).toNat)
    case atStart => exact ⟨0, rfl, Nat.zero_le _, Only.refl _ _⟩
    case round =>
     obtain ⟨q, rfl, hq, ho⟩ := hrel
     have QO := Lib.hid (O2.out.trans ho (by simp))
     have QP := Lib.hid (P2.out.trans ho (by simp))
     have QC := Lib.hid ho
     have G1 := Lib.hid (F1.out.only ho (by simp))
     have G2 := Lib.hid (F2.out.only ho (by simp))
     have g13 := G1.out.cell0 (i := 3) rfl
     have g23 := G2.out.cell0 (i := 3) rfl
     clear ho
     by_cases hql : q < code.length
     ·obtain ⟨ib, io, TA, tn, tc, AA, an, ac, hA, hib, -, -, htv, hal, hcs⟩ := in_at HIL.out hql
      obtain ⟨ib', io', TA', tn', tc', AA', an', ac', hA', hib', -, -, htv', hal', hcs'⟩ := in_at HIL'.out hql
      subst hA hA'
      have hql' : (q : Int) < (code.length : Int) := by omega
      have RR := Lib.hid (in_eleven (g := ib) (o := io + q * 11) (w := wr) fun z u hu => (QO.out.cell (p := ⟨ib, io + q * 11 + z, none⟩) hib (by simp)).trans (hcs z u hu))
      have SS := Lib.hid (in_eleven (g := ib') (o := io' + q * 11) (w := wr) fun z u hu => (QO.out.cell (p := ⟨ib', io' + q * 11 + z, none⟩) hib' (by simp)).trans (hcs' z u hu))
      have KS := Lib.hid (fun x : Cm wr => r7in_any (code[q]'hql) (HGC.out _ (List.getElem_mem hql)) _ _ _ _ F F' x.1 (TV.same (QO.out.trans x.o (by simp)) htv) (hal.same (QO.out.trans x.o (by simp))) (TV.same (QO.out.trans x.o (by simp)) htv') (hal'.same (QO.out.trans x.o (by simp))))
      clear htv hal hcs htv' hal' hcs'
      generalize code[q]'hql = i at *
      go_wp2_with fail
      have a0 := fun x : Cm wr => Cm.cell RR.out.1 x
      have a1 := fun x : Cm wr => Cm.cell RR.out.2.1 x
      have a2 := fun x : Cm wr => Cm.cell RR.out.2.2.1 x
      have a3 := fun x : Cm wr => Cm.cell RR.out.2.2.2.1 x
      have a4 := fun x : Cm wr => Cm.cell RR.out.2.2.2.2.1 x
      have a5 := fun x : Cm wr => Cm.cell RR.out.2.2.2.2.2.1 x
      have a6 := fun x : Cm wr => Cm.cell RR.out.2.2.2.2.2.2.1 x
      have a7 := fun x : Cm wr => Cm.cell RR.out.2.2.2.2.2.2.2.1 x
      have a8 := fun x : Cm wr => Cm.cell RR.out.2.2.2.2.2.2.2.2.1 x
      have a9 := fun x : Cm wr => Cm.cell RR.out.2.2.2.2.2.2.2.2.2.1 x
      have a10 := fun x : Cm wr => Cm.cell RR.out.2.2.2.2.2.2.2.2.2.2 x
      have d0 := fun x : Cm wr => Cm.cell SS.out.1 x
      have d1 := fun x : Cm wr => Cm.cell SS.out.2.1 x
      have d2 := fun x : Cm wr => Cm.cell SS.out.2.2.1 x
      have d3 := fun x : Cm wr => Cm.cell SS.out.2.2.2.1 x
      have d4 := fun x : Cm wr => Cm.cell SS.out.2.2.2.2.1 x
      have d5 := fun x : Cm wr => Cm.cell SS.out.2.2.2.2.2.1 x
      have d6 := fun x : Cm wr => Cm.cell SS.out.2.2.2.2.2.2.1 x
      have d7 := fun x : Cm wr => Cm.cell SS.out.2.2.2.2.2.2.2.1 x
      have d8 := fun x : Cm wr => Cm.cell SS.out.2.2.2.2.2.2.2.2.1 x
      have d9 := fun x : Cm wr => Cm.cell SS.out.2.2.2.2.2.2.2.2.2.1 x
      have d10 := fun x : Cm wr => Cm.cell SS.out.2.2.2.2.2.2.2.2.2.2 x
      have c5 : ∀ x : Cm wr, x.1.cell? ⟨b1, 3, none⟩ = some (.slice (some ⟨ib, io, none⟩) code.length cc) := Cm.cell g13
      have c6 : ∀ x : Cm wr, x.1.cell? ⟨b2, 3, none⟩ = some (.slice (some ⟨ib', io', none⟩) code.length cc') := Cm.cell g23
      refine wp_region_calm (by kernel_rfl) (by kernel_rfl) ?_
      repeat (go_big_quiet_step ((go_at_call 14; exact calmS (KS.out _))))
      refine wpQuiet_nil ?_
      rintro w2 ⟨⟨w2', o2⟩, e2⟩
      obtain rfl : w2 = w2' := e2
      have HX := Lib.hid (show ∃ q' : Nat, Value.int .i64 ((q : Int) + 1) = .int .i64 (q' : Int) ∧ q' ≤ code.length ∧ Only [] wc w2 from ⟨q + 1, by go_num, by omega, QC.out.trans o2 (by simp)⟩)
      clear a0 a1 a2 a3 a4 a5 a6 a7 a8 a9 a10 d0 d1 d2 d3 d4 d5 d6 d7 d8 d9 d10 c5 c6 g13 g23 o2
      go_wp2_with fail
      go_roundw
      case rel => exact HX.out
      case measure => simp [intOf]; omega
     ·have hqe : q = code.length := by omega
      subst hqe
      have HX := Lib.hid (show ∃ j' : Nat, Value.int .i64 ((j : Int) + 1) = .int .i64 (j' : Int) ∧ j' ≤ fs.length ∧ Only [] W0 wr from ⟨j + 1, by go_num, by omega, QP.out⟩)
      clear hq
      go_wp2_with fail
      go_roundw
      case rel => exact HX.out
      case measure => simp [intOf]; omega
  ·have hje : j = fs.length := by omega
   subst hje
   clear hj
   go_wp2_with fail
   go_ret
   exact ⟨rfl, HO.out⟩
open Go.RowKit
def partsE : Option Md → ByteArray × List Fu
 | some md => (md.name, md.funcs)
 | none => (⟨#[]⟩, [])
theorem unp_parts {r : Option Md} {us : Array Value} {w w' : World} (h : match r with
 | some md => DVs w' (fun g => w.heap.size ≤ g) md.ds us.toList
 | none => us = ZM) : ∃ FA cf, us = #[.string (partsE r).1, .slice FA (partsE r).2.length cf] ∧ FL w' (fun g => w.heap.size ≤ g) (partsE r).2 (.slice FA (partsE r).2.length cf) := by
 cases r with
 | none =>
  have h : us = ZM := h
  subst h
  exact ⟨none, 0, rfl, RowV.nil _ _ _⟩
 | some md =>
  obtain ⟨sf, hus, hf⟩ := md_parts md h
  obtain ⟨FA, cf, rfl⟩ := hf.slice
  refine ⟨FA, cf, ?_, hf⟩
  rw [← Array.toArray_toList (xs := us), hus]
  rfl
theorem unp_good (s : ByteArray) : (∀ f ∈ (partsE (unpE mchk s).2.2).2, f.Good) ∧ (partsE (unpE mchk s).2.2).2.length ≤ 262144 := by
 unfold unpE
 by_cases hs : 262144 < s.size
 ·rw [if_pos hs]
  exact ⟨fun f hf => (by cases hf), by simp [partsE]⟩
 rw [if_neg hs]
 cases hm : rMod s with
 | bad t => exact ⟨fun f hf => (by cases hf), by simp [partsE]⟩
 | ok md q =>
  have hg := rMod_good (by omega) hm
  dsimp only
  split
  ·split
   ·split
    ·exact ⟨hg.funcs, hg.len⟩
    ·exact ⟨fun f hf => (by cases hf), by simp [partsE]⟩
   ·exact ⟨fun f hf => (by cases hf), by simp [partsE]⟩
  ·exact ⟨fun f hf => (by cases hf), by simp [partsE]⟩
theorem law_go (s : ByteArray) (w : World) (hk : KN w) (hA : ∀ w, KN w → Calls Tryz.prog 7 #[] w fun e w' => e = .returned (.bool true) ∧ Only [] w w') :
 Calls Tryz.prog 3 #[.string s] w fun e w' => e = .returned (.bool true) ∧ Only [] w w' := by
 have HP := Lib.hid (punpack s w hk)
 have HD := Lib.hid (fun w => dunpack s w)
 have HG := Lib.hid (unp_good s)
 have HK := Lib.hid hk
 have HA := Lib.hid hA
 obtain ⟨⟨r1, r2, r3⟩, hr⟩ : ∃ r, unpE mchk s = r := ⟨_, rfl⟩
 rw [hr] at HP HD HG
 clear hk hA hr
 go_enter Tryz.func3, Tryz.ntmps3
 go_wp2_with fail
 (with_reducible refine (HP.out).mono ?_)
 rintro e w1 ⟨us, rfl, o1, -, hp⟩
 obtain ⟨FA, cf, rfl, hfl⟩ := unp_parts hp
 have HF1 := Lib.hid hfl
 have P1 := Lib.hid o1
 clear hp hfl o1
 obtain ⟨⟨nm, fs⟩, hpe⟩ : ∃ z, partsE r3 = z := ⟨_, rfl⟩
 have HPE := Lib.hid hpe
 rw [hpe] at HF1 HG ⊢
 dsimp only at HF1 ⊢
 have O1 := Lib.hid (P1.out.alloc (.cells #[.string nm, .slice FA fs.length cf] 24))
 have B1 := Lib.hid (Bk.made w1 24 #[.string nm, .slice FA fs.length cf])
 have HF2 := Lib.hid (HF1.out.same ((Only.refl [] w1).alloc (.cells #[.string nm, .slice FA fs.length cf] 24)))
 clear hpe
 go_wp2_with fail
 (with_reducible refine (HD.out _).mono ?_)
 rintro e w2 ⟨us', rfl, o2, -, hp⟩
 obtain ⟨FA', cf', rfl, hfl⟩ := unp_parts hp
 have hpe := HPE.out
 rw [hpe] at hfl ⊢
 dsimp only at hfl ⊢
 have O2 := Lib.hid ((O1.out.trans o2 (by simp)).alloc (.cells #[.string nm, .slice FA' fs.length cf'] 24))
 have C1 := Lib.hid ((B1.out.only o2 (by simp)).alloc (.cells #[.string nm, .slice FA' fs.length cf'] 24))
 have C2 := Lib.hid (Bk.made w2 24 #[.string nm, .slice FA' fs.length cf'])
 have HS := Lib.hid (r7same_go nm fs HG.out.1 HG.out.2 FA FA' cf cf' _ _ _ ((HF2.out.same o2).same ((Only.refl [] w2).alloc (.cells #[.string nm, .slice FA' fs.length cf'] 24))) (hfl.same ((Only.refl [] w2).alloc (.cells #[.string nm, .slice FA' fs.length cf'] 24))))
 have x0 := C1.out.cell0 (i := 0) rfl
 have x1 := C1.out.cell0 (i := 1) rfl
 have y0 := C2.out.cell0 (i := 0) rfl
 have y1 := C2.out.cell0 (i := 1) rfl
 clear hp hfl o2 hpe
 go_wp2_with fail
 (with_reducible refine (HS.out).mono ?_)
 rintro e w3 ⟨rfl, o3⟩
 have O3 := Lib.hid (O2.out.trans o3 (by simp))
 clear o3 x0 x1 y0 y1
 go_wp2_with fail
 (with_reducible refine (HA.out _ (HK.out.same O3.out)).mono ?_)
 rintro e w4 ⟨rfl, o4⟩
 have O4 := Lib.hid (O3.out.trans o4 (by simp))
 clear o4
 go_wp2_with fail
 go_ret
 exact ⟨rfl, O4.out⟩
open Go.RowKit
theorem sum_wiki : sumN ⟨#[87, 105, 107, 105, 112, 101, 100, 105, 97]⟩ = 300286872 := by decide
theorem unp_crm : unpE mchk ⟨#[67, 82, 77, 49]⟩ = (80, 4, none) := by kernel_rfl
abbrev T3 : Value := .agg #[.int .i64 3, .int .i64 (-3), .complex .f64 0 0, .string ⟨#[]⟩, .int .i64 0, .int .i64 0, .slice none 0 0]
theorem awake_go (w : World) (hk : KN w)
 (hT : ∀ w, Calls Tryz.prog 15 #[T3] w fun e w' => e = .returned (.tuple #[.string ⟨#[3, 5]⟩, .int .i64 0]) ∧ Only [] w w')
 (hO : ∀ w, Calls Tryz.prog 16 #[.string ⟨#[3, 5, 9]⟩] w fun e w' => e = .returned (.tuple #[T3, .int .i64 2, .int .i64 0]) ∧ Only [] w w') :
 Calls Tryz.prog 7 #[] w fun e w' => e = .returned (.bool true) ∧ Only [] w w' := by
 have rs := store_com
 have HT := Lib.hid hT
 have HO := Lib.hid hO
 have HU := Lib.hid (fun w (hk : KN w) => punpack ⟨#[67, 82, 77, 49]⟩ w hk)
 have HS := Lib.hid (fun w => psum_any ⟨#[87, 105, 107, 105, 112, 101, 100, 105, 97]⟩ w (by decide))
 rw [sum_wiki] at HS
 rw [unp_crm] at HU
 have HK := Lib.hid hk
 have O0 := Lib.hid (Only.refl [] w)
 clear hT hO hk
 go_enter Tryz.func7, Tryz.ntmps7
 go_wp2_with fail
 (with_reducible refine (HT.out _).mono ?_)
 rintro e w1 ⟨rfl, o1⟩
 have O1 := Lib.hid o1
 clear o1
 go_wp2_with fail
 (with_reducible refine (HO.out _).mono ?_)
 rintro e w2 ⟨rfl, o2⟩
 have O2 := Lib.hid ((O1.out.trans o2 (by simp)).alloc (.cells #[.int .i64 3, .int .i64 (-3), .complex .f64 0 0, .string ⟨#[]⟩, .int .i64 0, .int .i64 0, .slice none 0 0] 52))
 have B2 := Lib.hid (Bk.made w2 52 #[.int .i64 3, .int .i64 (-3), .complex .f64 0 0, .string ⟨#[]⟩, .int .i64 0, .int .i64 0, .slice none 0 0])
 clear o2
 go_wp2_with fail
 (with_reducible refine (HU.out _ (HK.out.same O2.out)).mono ?_)
 rintro e w3 ⟨us, rfl, o3, -, hp⟩
 have hp : us = ZM := hp
 subst hp
 have O3 := Lib.hid (O2.out.trans o3 (by simp))
 have B3 := Lib.hid (B2.out.only o3 (by simp))
 have k1 := (B3.out.alloc (.cells ZM 24)).cell0 (i := 1) rfl
 have O4 := Lib.hid (O3.out.alloc (.cells ZM 24))
 clear o3
 go_wp2_with fail
 (with_reducible refine (HS.out _).mono ?_)
 rintro e w4 ⟨rfl, rfl⟩
 go_wp2_with fail
 go_ret
 exact ⟨rfl, O4.out⟩
open Go.RowKit
theorem rterm3 : rTerm ⟨#[3, 5, 9]⟩ 64 0 = .ok (.int (-3)) 2 := by kernel_rfl
abbrev c3 : Array Value := #[.int .i64 3, .int .i64 (-3), .complex .f64 0 0, .string ⟨#[]⟩, .int .i64 0, .int .i64 0, .slice none 0 0]
theorem termof3 (w : World) : Calls Tryz.prog 16 #[.string ⟨#[3, 5, 9]⟩] w fun e w' => e = .returned (.tuple #[T3, .int .i64 2, .int .i64 0]) ∧ Only [] w w' := by
 have rs := store_com
 have G0 := Lib.hid ((Bk.made w 52 #[.int .i64 0, .int .i64 0, .complex .f64 0 0, .string ⟨#[]⟩, .int .i64 0, .int .i64 0, .slice none 0 0]).alloc (.cells #[.string ⟨#[3, 5, 9]⟩, .int .i64 0] 32))
 have O0 := Lib.hid (((Only.refl [] w).alloc (.cells #[.int .i64 0, .int .i64 0, .complex .f64 0 0, .string ⟨#[]⟩, .int .i64 0, .int .i64 0, .slice none 0 0] 52)).alloc (.cells #[.string ⟨#[3, 5, 9]⟩, .int .i64 0] 32))
 have R0 := Lib.hid (Bk.madeAt' (w := w.alloc (.cells #[.int .i64 0, .int .i64 0, .complex .f64 0 0, .string ⟨#[]⟩, .int .i64 0, .int .i64 0, .slice none 0 0] 52)) (t := 32) (cs := #[.string ⟨#[3, 5, 9]⟩, .int .i64 0]) (b := w.heap.size + 1) (by simp))
 have HM := Lib.hid (term_any ⟨#[3, 5, 9]⟩ 64 (w.heap.size + 1) 0 0 _ rfl R0.out (by decide) (by decide))
 rw [rterm3, show ((0 : Nat) : Int) = 0 from rfl] at HM
 have HC := Lib.hid (show ∀ w, Calls Tryz.prog 39 #[.agg c3] w fun e w' => e = .returned (.int .i64 0) ∧ Only [] w w' from fun w => (check_any (.int (-3)) (by unfold T.Good; trivial) (.slice none 0 0) (fun _ => False) w ((TV.leaf (by simp)).2 rfl) (fun _ h => h.elim)).mono fun e w' h => ⟨h.1.trans (by rw [show chk (.int (-3)) = 0 from by kernel_rfl]), h.2⟩)
 go_enter Tryz.func16, Tryz.ntmps16
 go_wp2_with fail
 (with_reducible refine (HM.out).mono ?_)
 rintro e w1 ⟨u, rfl, hu, hr, o1, -⟩
 obtain ⟨us, rfl, hd⟩ := hu
 obtain ⟨sl, hus, htv⟩ := tv_of (T.int (-3)) _ hd
 obtain rfl := (TV.leaf (by simp)).1 htv
 obtain rfl : us = c3 := by
  rw [← Array.toArray_toList (xs := us), hus]
  rfl
 have G1 := Lib.hid ((G0.out.only o1 (by simp)).alloc (.cells c3 52))
 have R1 := Lib.hid (Bk.alloc hr (.cells c3 52))
 have B1 := Lib.hid (Bk.made w1 52 c3)
 have O1 := Lib.hid ((O0.out.trans o1 (fun i hi => .inr (by simp at hi; omega))).alloc (.cells c3 52))
 clear hd htv hus hr o1
 go_wp2_with fail
 (with_reducible refine (HC.out _).mono ?_)
 rintro e w2 ⟨rfl, o2⟩
 have G2 := Lib.hid (G1.out.only o2 (by simp))
 have R2 := Lib.hid (Bk.only R1.out o2 (by simp))
 have B2 := Lib.hid (B1.out.only o2 (by simp))
 have O2 := Lib.hid (O1.out.trans o2 (by simp))
 clear o2
 go_wp2_with fail
 obtain ⟨g0, g1, g2, g3, g4, g5, g6⟩ := Bk.seven G2.out
 obtain ⟨b0, b1, b2, b3, b4, b5, b6⟩ := Bk.seven B2.out
 obtain ⟨r0, r1⟩ := Rdb.two R2.out
 have gf0 := G2.out.free 0
 have gf1 := G2.out.free 1
 have gf2 := G2.out.free 2
 have gf3 := G2.out.free 3
 have gf4 := G2.out.free 4
 have gf5 := G2.out.free 5
 have gf6 := G2.out.free 6
 go_region
 have E : Bk (World.setCell (World.setCell (World.setCell (World.setCell (World.setCell (World.setCell (World.setCell w2 ⟨w.heap.size, 0, none⟩ (.int .i64 3)) ⟨w.heap.size, 1, none⟩ (.int .i64 (-3))) ⟨w.heap.size, 2, none⟩ (.complex .f64 0 0)) ⟨w.heap.size, 3, none⟩ (.string ⟨#[]⟩)) ⟨w.heap.size, 4, none⟩ (.int .i64 0)) ⟨w.heap.size, 5, none⟩ (.int .i64 0)) ⟨w.heap.size, 6, none⟩ (.slice none 0 0)) w.heap.size 52 c3 := by
  have h1 := (Bk.set (Bk.set (Bk.set (Bk.set (Bk.set (Bk.set (Bk.set G2.out 0 (.int .i64 3)) 1 (.int .i64 (-3))) 2 (.complex .f64 0 0)) 3 (.string ⟨#[]⟩)) 4 (.int .i64 0)) 5 (.int .i64 0)) 6 (.slice none 0 0))
  simpa using h1
 have OE := Lib.hid (Only.set (Only.set (Only.set (Only.set (Only.set (Only.set (Only.set O2.out (p := ⟨w.heap.size, 0, none⟩) (.inr (Nat.le_refl _)) (.int .i64 3)) (p := ⟨w.heap.size, 1, none⟩) (.inr (Nat.le_refl _)) (.int .i64 (-3))) (p := ⟨w.heap.size, 2, none⟩) (.inr (Nat.le_refl _)) (.complex .f64 0 0)) (p := ⟨w.heap.size, 3, none⟩) (.inr (Nat.le_refl _)) (.string ⟨#[]⟩)) (p := ⟨w.heap.size, 4, none⟩) (.inr (Nat.le_refl _)) (.int .i64 0)) (p := ⟨w.heap.size, 5, none⟩) (.inr (Nat.le_refl _)) (.int .i64 0)) (p := ⟨w.heap.size, 6, none⟩) (.inr (Nat.le_refl _)) (.slice none 0 0))
 obtain ⟨z0, z1, z2, z3, z4, z5, z6⟩ := Bk.seven (Bk.drew E)
 clear E g0 g1 g2 g3 g4 g5 g6 b0 b1 b2 b3 b4 b5 b6 r0 r1 gf0 gf1 gf2 gf3 gf4 gf5 gf6
 go_wp2_with fail
 exact bodyPost_ret (v := .tuple #[T3, .int .i64 2, .int .i64 0]) (by simp [results, Tryz.results16, go_sem, z0, z1, z2, z3, z4, z5, z6]) rfl ⟨rfl, OE.out.drew⟩
end Go.Proofs.YtcdefnbehlcgeaaGreatDoor
