/- code: Check of any module that bytes give.. The document: heads.. -/
import Derived.Test.YtcdefnbehlcgeaaGreatDoorWbi
import Derived.Test.YtcdefnbehlcgeaaGreatDoorWbh
import Derived.BigQuiet
set_option maxHeartbeats 16000000
set_option maxRecDepth 20000
set_option linter.unusedSimpArgs false
set_option linter.unusedVariables false
namespace Go.Proofs.YtcdefnbehlcgeaaGreatDoor
open Go.RowKit
theorem firstE_zero {α : Type} {f : α → Int} : ∀ {l : List α}, firstE l f = 0 → ∀ x ∈ l, f x = 0
 | [], _, x, hx => by cases hx
 | y :: r, h, x, hx => by
  rw [firstE_cons] at h
  by_cases hy : f y = 0
  ·rw [if_neg (fun h => h hy)] at h
   rcases List.mem_cons.1 hx with rfl | hx
   ·exact hy
   ·exact firstE_zero h x hx
  ·rw [if_pos hy] at h
   exact absurd h hy
theorem fnOk_parts {f : Fu} (h : fnOk f = true) : f.params ≤ f.locals ∧ f.locals ≤ 32 ∧ 1 ≤ f.code.length ∧ f.code.length ≤ 1024 := by
 unfold fnOk at h
 simp only [Bool.and_eq_true, decide_eq_true_eq] at h
 exact ⟨h.2.1.1, h.2.1.2, h.2.2.1, h.2.2.2⟩
def HdRel (w : World) (fs : List Fu) (v : Value) (wr : World) : Prop := ∃ j : Nat, v = .int .i64 j ∧ j ≤ fs.length ∧ (∀ i, i < j → hdAt fs i = true) ∧ Only [] w wr
def FeRel (w : World) (fs : List Fu) (g : Fu → Int) (E : Int) (v : Value) (wr : World) : Prop := ∃ j : Nat, v = .int .i64 j ∧ j ≤ fs.length ∧ firstE (fs.drop j) g = E ∧ Only [] w wr
theorem code_ok {fs : List Fu} (hg : ∀ f ∈ fs, f.Good) (hl : fs.length ≤ 64) (hh : ∀ f ∈ fs, fnOk f = true) (hi : ∀ f ∈ fs, insE fs.length f = 0) : ∀ f ∈ fs, CodeOk fs f.code f.locals := fun f hf =>
 ⟨by omega, (hg f hf).len, fun g hgm => ⟨(hg g hgm).params, by have := fnOk_parts (hh g hgm); omega⟩, (hg f hf).code, fun i him => (insE_ok (hi f hf) i him).1, fun i him => (insE_ok (hi f hf) i him).2⟩
def MkE (w : World) (C : Int) (e : Ending) (w' : World) : Prop := ∃ x y : Int, e = .returned (.tuple #[.int .i64 C, .int .i64 x, .int .i64 y]) ∧ Only [] w w'
theorem pcheck_go (nm : ByteArray) (FA : Option Addr) (cf : Nat) (fs : List Fu) (hg : (⟨nm, fs⟩ : Md).Good) (F : Nat → Prop) (C : Int) (w : World) (hf : FL w F fs (.slice FA fs.length cf)) (hF : ∀ b, F b → b < w.heap.size) (hkn : KN w) (hC : mchk ⟨nm, fs⟩ = C) :
 Calls Tryz.prog 10 #[.agg #[.string nm, .slice FA fs.length cf]] w fun e w' => MkE w C e w' := by
 have HC := Lib.hid hC
 have HFL := Lib.hid (fun W (o : Only [] w W) => hf.same o)
 have HFF := Lib.hid (fun W (o : Only [] w W) b hb => Nat.lt_of_lt_of_le (hF b hb) o.size)
 have HKN := Lib.hid (fun W (o : Only [] w W) => hkn.same o)
 have HG := Lib.hid hg.funcs
 have hl0 : fs.length ≤ 262144 := hg.len
 have HA := Lib.hid (fun w => isAtom_any nm w hg.name)
 have HW := Lib.hid (fun w => isWithin_any (fs.length : Int) 1 64 w)
 obtain ⟨r1, hr1⟩ : ∃ r1, atomOk (lst nm) = r1 := ⟨_, rfl⟩
 obtain ⟨r2, hr2⟩ : ∃ r2, (decide (1 ≤ fs.length) && decide (fs.length ≤ 64)) = r2 := ⟨_, rfl⟩
 have hr2' : (decide (1 ≤ (fs.length : Int)) && decide ((fs.length : Int) ≤ 64)) = r2 := by
  rw [← hr2, show decide (1 ≤ (fs.length : Int)) = decide (1 ≤ fs.length) from decide_eq_decide.2 ⟨fun h => by omega, fun h => by omega⟩, show decide ((fs.length : Int) ≤ 64) = decide (fs.length ≤ 64) from decide_eq_decide.2 ⟨fun h => by omega, fun h => by omega⟩]
 rw [hr1] at HA
 rw [hr2'] at HW
 have HR1 := Lib.hid hr1
 have HR2 := Lib.hid hr2
 have BM := Lib.hid (Bk.made w 24 #[.string nm, .slice FA fs.length cf])
 have O0 := Lib.hid ((Only.refl [] w).alloc (.cells #[.string nm, .slice FA fs.length cf] 24))
 clear hC hf hF hkn hg hr1 hr2 hr2'
 have H60 := Lib.hid (show hdOk ⟨nm, fs⟩ = false → 60 = C from fun h => by rw [← HC.out]; unfold mchk; rw [if_pos h])
 have no1 : r1 = false → hdOk ⟨nm, fs⟩ = false := fun h => by
  unfold hdOk
  dsimp only
  rw [HR1.out, h, Bool.false_and, Bool.false_and]
 have no2 : r2 = false → hdOk ⟨nm, fs⟩ = false := fun h => by
  unfold hdOk
  dsimp only
  rw [HR2.out, h, Bool.and_false, Bool.false_and]
 have NO1 := Lib.hid no1
 have NO2 := Lib.hid no2
 clear no1 no2
 cases r1 with
 | false =>
  have HE := Lib.hid (H60.out (NO1.out rfl))
  go_enter Tryz.func10, Tryz.ntmps10
  go_wp2_with fail
  (with_reducible refine (HA.out _).mono ?_)
  rintro e w1 ⟨rfl, o1⟩
  have O1 := Lib.hid (O0.out.trans o1 (by simp))
  clear o1
  go_wp2_with fail
  exact bodyPost_ret (v := .tuple #[.int .i64 60, .int .i64 0, .int .i64 0]) (by simp [results, Tryz.results10, go_sem]) rfl ⟨0, 0, by rw [HE.out], O1.out⟩
 | true =>
  go_enter Tryz.func10, Tryz.ntmps10
  go_wp2_with fail
  (with_reducible refine (HA.out _).mono ?_)
  rintro e w1 ⟨rfl, o1⟩
  have O1 := Lib.hid (O0.out.trans o1 (by simp))
  have B1 := Lib.hid (BM.out.only o1 (by simp))
  have m0 := B1.out.cell0 (i := 0) rfl
  have m1 := B1.out.cell0 (i := 1) rfl
  clear o1
  cases r2 with
  | false =>
   have HE := Lib.hid (H60.out (NO2.out rfl))
   go_wp2_with fail
   (with_reducible refine (HW.out _).mono ?_)
   rintro e w2 ⟨rfl, rfl⟩
   go_wp2_with fail
   exact bodyPost_ret (v := .tuple #[.int .i64 60, .int .i64 0, .int .i64 0]) (by simp [results, Tryz.results10, go_sem]) rfl ⟨0, 0, by rw [HE.out], O1.out⟩
  | true =>
   have hl64 : fs.length ≤ 64 := by
    have := HR2.out
    rw [Bool.and_eq_true] at this
    exact of_decide_eq_true this.2
   go_wp2_with fail
   (with_reducible refine (HW.out _).mono ?_)
   rintro e w2 ⟨rfl, rfl⟩
   go_wp2_with fail
   clear m0 m1
   go_loopw [27] (fun v wr => HdRel w1 fs v wr) (fun v _ => fs.length - (intOf v).toNat)
   case atStart => exact ⟨0, rfl, Nat.zero_le _, fun i hi => by omega, Only.refl _ _⟩
   case round =>
    obtain ⟨j, rfl, hj, hq, ho⟩ := hrel
    have HO := Lib.hid (O1.out.trans ho (by simp))
    have HP := Lib.hid ho
    have BJ := Lib.hid (B1.out.only ho (by simp))
    have HQ := Lib.hid hq
    have m0 := BJ.out.cell0 (i := 0) rfl
    have m1 := BJ.out.cell0 (i := 1) rfl
    clear ho hq
    by_cases hjl : j < fs.length
    ·obtain ⟨r, hr⟩ : ∃ r, hdAt fs j = r := ⟨_, rfl⟩
     have HM := Lib.hid (funcMay_any nm FA fs.length cf fs F j r wr (HFL.out _ HO.out) HG.out hjl hl0 hr)
     cases r with
     | false =>
      have HE := Lib.hid (H60.out (by
       unfold hdOk
       dsimp only
       rw [show (List.range fs.length).all (hdAt fs) = false from by
        rw [Bool.eq_false_iff]
        intro h
        have := List.all_eq_true.1 h j (List.mem_range.2 hjl)
        rw [hr] at this
        cases this]
       rw [Bool.and_false]))
      clear hr
      go_wp2_with fail
      (with_reducible refine (HM.out).mono ?_)
      rintro e w3 ⟨rfl, o3⟩
      have O3 := Lib.hid (HO.out.trans o3 (by simp))
      clear o3
      go_wp2_with fail
      exact bodyPost_ret (v := .tuple #[.int .i64 60, .int .i64 j, .int .i64 0]) (by simp [results, Tryz.results10, go_sem]) rfl ⟨j, 0, by rw [HE.out], O3.out⟩
     | true =>
      have HQ2 := Lib.hid (show ∀ i, i < j + 1 → hdAt fs i = true from fun i hi => by
       by_cases e : i = j
       ·rw [e]; exact hr
       ·exact HQ.out i (by omega))
      clear hr
      go_wp2_with fail
      (with_reducible refine (HM.out).mono ?_)
      rintro e w3 ⟨rfl, o3⟩
      have HX := Lib.hid (show HdRel w1 fs (.int .i64 ((j : Int) + 1)) w3 from ⟨j + 1, by go_num, by omega, HQ2.out, HP.out.trans o3 (by simp)⟩)
      clear o3
      go_wp2_with fail
      go_roundw
      case rel => exact HX.out
      case measure => simp [intOf]; omega
    ·have hje : j = fs.length := by omega
     subst hje
     have hdok : hdOk ⟨nm, fs⟩ = true := by
      unfold hdOk
      dsimp only
      rw [HR1.out, HR2.out, Bool.true_and, Bool.true_and]
      rw [List.all_eq_true]
      intro i hi
      exact HQ.out i (List.mem_range.1 hi)
     have hfn : ∀ f ∈ fs, fnOk f = true := fun f hfm => by
      obtain ⟨i, hi, rfl⟩ := List.getElem_of_mem hfm
      have := HQ.out i hi
      rw [hdAt_eq hi, Bool.and_eq_true] at this
      exact this.1
     have HFN := Lib.hid hfn
     have HC2 := Lib.hid (show (if firstE fs (insE fs.length) ≠ 0 then firstE fs (insE fs.length) else firstE fs (flE fs)) = C from by
      have h := HC.out
      unfold mchk at h
      rw [if_neg (by rw [hdok]; decide)] at h
      exact h)
     obtain ⟨E2, hE2⟩ : ∃ E2, firstE fs (insE fs.length) = E2 := ⟨_, rfl⟩
     obtain ⟨E3, hE3⟩ : ∃ E3, firstE fs (flE fs) = E3 := ⟨_, rfl⟩
     rw [hE2, hE3] at HC2
     have HE2 := Lib.hid hE2
     have HE3 := Lib.hid hE3
     clear hdok hfn hE2 hE3 hj HQ
     obtain ⟨wa, ea⟩ : ∃ wa, wa = wr := ⟨_, rfl⟩
     subst ea
     go_wp2_with fail
     clear m0 m1
     go_loopw [39] (fun v wq => FeRel wa fs (insE fs.length) E2 v wq) (fun v _ => fs.length - (intOf v).toNat)
     case atStart => exact ⟨0, rfl, Nat.zero_le _, HE2.out, Only.refl _ _⟩
     case round =>
      obtain ⟨wq, eq⟩ : ∃ wq, wq = wr := ⟨_, rfl⟩
      subst eq
      obtain ⟨j, rfl, hj, hq, ho⟩ := hrel
      have QO := Lib.hid (HO.out.trans ho (by simp))
      have QP := Lib.hid ho
      have BQ := Lib.hid (BJ.out.only ho (by simp))
      have QQ := Lib.hid hq
      have m0 := BQ.out.cell0 (i := 0) rfl
      have m1 := BQ.out.cell0 (i := 1) rfl
      clear ho hq
      by_cases hjl : j < fs.length
      ·have hfk := fnOk_parts (HFN.out _ (List.getElem_mem hjl))
       obtain ⟨r, hr⟩ : ∃ r, insE fs.length (fs[j]'hjl) = r := ⟨_, rfl⟩
       have HM := Lib.hid (instrs_any nm FA fs.length cf fs F j r wq (HFL.out _ QO.out) (HFF.out _ QO.out) HG.out hjl hl0 hfk.2.1 (HKN.out _ QO.out) hr)
       have hq := QQ.out
       rw [List.drop_eq_getElem_cons hjl, firstE_cons, hr] at hq
       have QQ2 := Lib.hid hq
       clear hq hr hfk
       go_wp2_with fail
       (with_reducible refine (HM.out).mono ?_)
       rintro e w3 ⟨x, rfl, o3⟩
       have O3 := Lib.hid (QO.out.trans o3 (by simp))
       have P3 := Lib.hid (QP.out.trans o3 (by simp))
       clear o3
       by_cases hz : r = 0
       ·have HX := Lib.hid (show FeRel wa fs (insE fs.length) E2 (.int .i64 ((j : Int) + 1)) w3 from ⟨j + 1, by go_num, by omega, by have h := QQ2.out; rw [if_neg (fun h => h hz)] at h; exact h, P3.out⟩)
        subst hz
        go_wp2_with fail
        go_roundw
        case rel => exact HX.out
        case measure => simp [intOf]; omega
       ·have e5 : (r != 0) = true := by simpa using hz
        have HE := Lib.hid (show r = C from by
         have h := QQ2.out
         rw [if_pos hz] at h
         have h2 := HC2.out
         rw [if_pos (by rw [← h]; exact hz)] at h2
         rw [h, h2])
        clear hz
        go_wp2_with fail
        exact bodyPost_ret (v := .tuple #[.int .i64 r, .int .i64 j, .int .i64 x]) (by simp [results, Tryz.results10, go_sem]) rfl ⟨j, x, by rw [HE.out], O3.out⟩
      ·have hje : j = fs.length := by omega
       subst hje
       have hE0 : (0 : Int) = E2 := by rw [← QQ.out, List.drop_length]; rfl
       have HC3 := Lib.hid (show E3 = C from by
        have h := HC2.out
        rw [if_neg (fun h => h hE0.symm)] at h
        exact h)
       have HOK := Lib.hid (code_ok HG.out hl64 HFN.out (firstE_zero (by rw [HE2.out, ← hE0])))
       clear hE0 hj QQ
       go_wp2_with fail
       clear m0 m1
       go_loopw [57] (fun v wz => FeRel wq fs (flE fs) E3 v wz) (fun v _ => fs.length - (intOf v).toNat)
       case atStart => exact ⟨0, rfl, Nat.zero_le _, HE3.out, Only.refl _ _⟩
       case round =>
        obtain ⟨wz, ez⟩ : ∃ wz, wz = wr := ⟨_, rfl⟩
        subst ez
        obtain ⟨j, rfl, hj, hq, ho⟩ := hrel
        have ZO := Lib.hid (QO.out.trans ho (by simp))
        have ZP := Lib.hid ho
        have BZ := Lib.hid (BQ.out.only ho (by simp))
        have ZQ := Lib.hid hq
        have m0 := BZ.out.cell0 (i := 0) rfl
        have m1 := BZ.out.cell0 (i := 1) rfl
        clear ho hq
        by_cases hjl : j < fs.length
        ·have hfk := fnOk_parts (HFN.out _ (List.getElem_mem hjl))
         obtain ⟨r, hr⟩ : ∃ r, flE fs (fs[j]'hjl) = r := ⟨_, rfl⟩
         have HM := Lib.hid (heights_any nm FA fs.length cf fs F j r wz (HFL.out _ ZO.out) (HFF.out _ ZO.out) hjl _ (HOK.out _ (List.getElem_mem hjl)) hfk.2.2.1 hfk.2.2.2 hr)
         have hq := ZQ.out
         rw [List.drop_eq_getElem_cons hjl, firstE_cons, hr] at hq
         have ZQ2 := Lib.hid hq
         clear hq hr hfk
         go_wp2_with fail
         (with_reducible refine (HM.out).mono ?_)
         rintro e w3 ⟨v, x, rfl, o3⟩
         have O3 := Lib.hid (ZO.out.trans o3 (by simp))
         have P3 := Lib.hid (ZP.out.trans o3 (by simp))
         clear o3
         by_cases hz : r = 0
         ·have HX := Lib.hid (show FeRel wq fs (flE fs) E3 (.int .i64 ((j : Int) + 1)) w3 from ⟨j + 1, by go_num, by omega, by have h := ZQ2.out; rw [if_neg (fun h => h hz)] at h; exact h, P3.out⟩)
          subst hz
          go_wp2_with fail
          go_roundw
          case rel => exact HX.out
          case measure => simp [intOf]; omega
         ·have e5 : (r != 0) = true := by simpa using hz
          have HE := Lib.hid (show r = C from by
           have h := ZQ2.out
           rw [if_pos hz] at h
           rw [h, HC3.out])
          clear hz
          go_wp2_with fail
          exact bodyPost_ret (v := .tuple #[.int .i64 r, .int .i64 j, .int .i64 x]) (by simp [results, Tryz.results10, go_sem]) rfl ⟨j, x, by rw [HE.out], O3.out⟩
        ·have hje : j = fs.length := by omega
         subst hje
         have HE := Lib.hid (show (0 : Int) = C from by
          have h : (0 : Int) = E3 := by rw [← ZQ.out, List.drop_length]; rfl
          rw [h, HC3.out])
         clear hj
         go_wp2_with fail
         exact bodyPost_ret (v := .tuple #[.int .i64 0, .int .i64 0, .int .i64 0]) (by simp [results, Tryz.results10, go_sem]) rfl ⟨0, 0, by rw [HE.out], ZO.out⟩
theorem pcheck_any (m : Md) (hg : m.Good) (us : Array Value) (F : Nat → Prop) (w : World) (hd : DVs w F m.ds us.toList) (hF : ∀ b, F b → b < w.heap.size) (hkn : KN w) :
 Calls Tryz.prog 10 #[.agg us] w fun e w' => MkE w (mchk m) e w' := by
 obtain ⟨sf, hus, hf⟩ := md_parts m hd
 obtain ⟨FA, cf, rfl⟩ := hf.slice
 obtain rfl : us = #[.string m.name, .slice FA m.funcs.length cf] := by
  rw [← Array.toArray_toList (xs := us), hus]
 exact pcheck_go m.name FA cf m.funcs hg F _ w hf hF hkn rfl
open Go.RowKit
theorem hd_not {nm : ByteArray} {fs : List Fu} {j : Nat} (hj : j < fs.length) (h : hdAt fs j = false) : hdOk ⟨nm, fs⟩ = false := by
 unfold hdOk
 dsimp only
 rw [show (List.range fs.length).all (hdAt fs) = false from by
  rw [Bool.eq_false_iff]
  intro h'
  have := List.all_eq_true.1 h' j (List.mem_range.2 hj)
  rw [h] at this
  cases this]
 rw [Bool.and_false]
theorem heads_any (nm : ByteArray) (FA : Option Addr) (cf : Nat) (fs : List Fu) (hg : (⟨nm, fs⟩ : Md).Good) (F : Nat → Prop) (E : Int) (w : World) (hf : FL w F fs (.slice FA fs.length cf)) (hE : (if hdOk ⟨nm, fs⟩ = true then (0 : Int) else 60) = E) :
 Calls Tryz.prog 33 #[.agg #[.string nm, .slice FA fs.length cf]] w fun e w' => CkE w E e w' := by
 have rs := store_com
 have H60 := Lib.hid (show hdOk ⟨nm, fs⟩ = false → 60 = E from fun h => by rw [← hE, h]; rfl)
 have H0 := Lib.hid (show hdOk ⟨nm, fs⟩ = true → 0 = E from fun h => by rw [← hE, h]; rfl)
 have HF0 := Lib.hid hf
 have HG := Lib.hid hg.funcs
 have hl0 : fs.length ≤ 262144 := hg.len
 have HA := Lib.hid (fun w => ratom_any nm w hg.name)
 obtain ⟨r1, hr1⟩ : ∃ r1, atomOk (lst nm) = r1 := ⟨_, rfl⟩
 rw [hr1] at HA
 have HR1 := Lib.hid hr1
 have BM := Lib.hid (Bk.made w 24 #[.string nm, .slice FA fs.length cf])
 have O0 := Lib.hid ((Only.refl [] w).alloc (.cells #[.string nm, .slice FA fs.length cf] 24))
 have NO1 := Lib.hid (show r1 = false → hdOk ⟨nm, fs⟩ = false from fun h => by
  unfold hdOk
  dsimp only
  rw [hr1, h, Bool.false_and, Bool.false_and])
 have NO2 := Lib.hid (show (fs.length < 1 ∨ 64 < fs.length) → hdOk ⟨nm, fs⟩ = false from fun h => by
  unfold hdOk
  dsimp only
  rw [show (decide (1 ≤ fs.length) && decide (fs.length ≤ 64)) = false from by
   rcases h with h | h
   ·rw [decide_eq_false (p := 1 ≤ fs.length) (by omega)]; rfl
   ·rw [decide_eq_false (p := fs.length ≤ 64) (by omega), Bool.and_false], Bool.and_false, Bool.false_and])
 clear hE hf hg hr1
 cases r1 with
 | false =>
  have HE := Lib.hid (H60.out (NO1.out rfl))
  go_enter Tryz.func33, Tryz.ntmps33
  go_wp2_with fail
  (with_reducible refine (HA.out _).mono ?_)
  rintro e w1 ⟨rfl, o1⟩
  have O1 := Lib.hid (O0.out.trans o1 (by simp))
  clear o1
  go_wp2_with fail
  exact bodyPost_ret (v := .tuple #[.int .i64 60, .int .i64 0]) (by simp [results, Tryz.results33, go_sem]) rfl ⟨0, by rw [HE.out], O1.out⟩
 | true =>
  go_enter Tryz.func33, Tryz.ntmps33
  go_wp2_with fail
  (with_reducible refine (HA.out _).mono ?_)
  rintro e w1 ⟨rfl, o1⟩
  have O1 := Lib.hid (O0.out.trans o1 (by simp))
  have B1 := Lib.hid (BM.out.only o1 (by simp))
  have m0 := B1.out.cell0 (i := 0) rfl
  have m1 := B1.out.cell0 (i := 1) rfl
  clear o1
  by_cases hlo : (fs.length : Int) < 1
  ·have HE := Lib.hid (H60.out (NO2.out (.inl (by omega))))
   go_wp2_with fail
   exact bodyPost_ret (v := .tuple #[.int .i64 60, .int .i64 0]) (by simp [results, Tryz.results33, go_sem]) rfl ⟨0, by rw [HE.out], O1.out⟩
  by_cases hhi : (64 : Int) < (fs.length : Int)
  ·have HE := Lib.hid (H60.out (NO2.out (.inr (by omega))))
   go_wp2_with fail
   exact bodyPost_ret (v := .tuple #[.int .i64 60, .int .i64 0]) (by simp [results, Tryz.results33, go_sem]) rfl ⟨0, by rw [HE.out], O1.out⟩
  have hpos : 0 < fs.length := by omega
  obtain ⟨bl, off, sc0, rfl, h2, h3, -, -, -, -, -, -⟩ := fcs_at HF0.out hpos
  have HN := Lib.hid (fun j (hj : j < fs.length) => show w.cell? ⟨bl, off + j * 4, none⟩ = some (.string (fs[j]'hj).name) ∧ w.cell? ⟨bl, off + j * 4 + 1, none⟩ = some (.int .i64 (fs[j]'hj).params) ∧ w.cell? ⟨bl, off + j * 4 + 2, none⟩ = some (.int .i64 (fs[j]'hj).locals) ∧ ∃ sa sc, w.cell? ⟨bl, off + j * 4 + 3, none⟩ = some (.slice sa (fs[j]'hj).code.length sc) from by
   obtain ⟨bl', off', sc', e, -, -, -, h7, d0, d1, d2, d3⟩ := fcs_at HF0.out hj
   injection e with e
   injection e with e1 e2
   subst e1 e2
   obtain ⟨sa, cc, rfl⟩ := h7.slice
   exact ⟨d0, d1, d2, _, _, d3⟩)
  have HB := Lib.hid h2
  have HLS := Lib.hid (show (decide (1 ≤ fs.length) && decide (fs.length ≤ 64)) = true by rw [decide_eq_true (p := 1 ≤ fs.length) (by omega), decide_eq_true (p := fs.length ≤ 64) (by omega)]; rfl)
  go_wp2_with fail
  clear m0 m1 h2
  go_loopw [4] (fun v wr => HdRel w1 fs v wr) (fun v _ => fs.length - (intOf v).toNat)
  case atStart => exact ⟨0, rfl, Nat.zero_le _, fun i hi => by omega, Only.refl _ _⟩
  case round =>
   obtain ⟨j, rfl, hj, hq, ho⟩ := hrel
   have HO := Lib.hid (O1.out.trans ho (by simp))
   have HP := Lib.hid ho
   have BJ := Lib.hid (B1.out.only ho (by simp))
   have HQ := Lib.hid hq
   have m0 := BJ.out.cell0 (i := 0) rfl
   have m1 := BJ.out.cell0 (i := 1) rfl
   obtain ⟨wa, ea⟩ : ∃ wa, wa = wr := ⟨_, rfl⟩
   subst ea
   clear ho hq
   by_cases hjl : j < fs.length
   ·obtain ⟨d0, d1, d2, sa, sc, d3⟩ := HN.out j hjl
    have y0 := (HO.out.cell (p := ⟨bl, off + j * 4, none⟩) HB.out (by simp)).trans d0
    have y1 := (HO.out.cell (p := ⟨bl, off + j * 4 + 1, none⟩) HB.out (by simp)).trans d1
    have y2 := (HO.out.cell (p := ⟨bl, off + j * 4 + 2, none⟩) HB.out (by simp)).trans d2
    have y3 := (HO.out.cell (p := ⟨bl, off + j * 4 + 3, none⟩) HB.out (by simp)).trans d3
    have hG := HG.out _ (List.getElem_mem hjl)
    obtain ⟨D, hD⟩ : ∃ D, ((fs.take j).any fun f => decide (lst f.name = lst (fs[j]'hjl).name)) = D := ⟨_, rfl⟩
    have HD := Lib.hid (show (((fs.take j).drop 0).any fun f => decide (lst f.name = lst (fs[j]'hjl).name)) = D from hD)
    have HB1 := Lib.hid (show fnOk (fs[j]'hjl) = false → 60 = E from fun h => H60.out (hd_not hjl (by rw [hdAt_eq hjl, h, Bool.false_and])))
    have HB2 := Lib.hid (show true = D → 60 = E from fun h => H60.out (hd_not hjl (by rw [hdAt_eq hjl, dupAt_eq hjl, hD, ← h, Bool.not_true, Bool.and_false])))
    have HB3 := Lib.hid (show fnOk (fs[j]'hjl) = true → false = D → ∀ i, i < j + 1 → hdAt fs i = true from fun h h' i hi => by
     by_cases e : i = j
     ·subst e
      rw [hdAt_eq hjl, dupAt_eq hjl, h, hD, ← h']; rfl
     ·exact HQ.out i (by omega))
    have HA2 := Lib.hid (fun w => ratom_any (fs[j]'hjl).name w hG.name)
    have hp0 : ¬ (fs[j]'hjl).params < 0 := by have := hG.params; omega
    have hcl : (fs[j]'hjl).code.length ≤ 262144 := hG.len
    clear hG hD d0 d1 d2 d3
    generalize fs[j]'hjl = g at *
    obtain ⟨ra, hra⟩ : ∃ ra, atomOk (lst g.name) = ra := ⟨_, rfl⟩
    rw [hra] at HA2
    have HFN := Lib.hid (show fnOk g = (ra && (decide (g.params ≤ g.locals) && decide (g.locals ≤ 32) && (decide (1 ≤ g.code.length) && decide (g.code.length ≤ 1024)))) from by unfold fnOk; rw [hra])
    have OA := Lib.hid (HO.out.alloc (.cells (fcs g (.slice sa g.code.length sc)) 45))
    have OP := Lib.hid (HP.out.alloc (.cells (fcs g (.slice sa g.code.length sc)) 45))
    have BF := Lib.hid (Bk.made wa 45 (fcs g (.slice sa g.code.length sc)))
    have BA := Lib.hid (BJ.out.alloc (.cells (fcs g (.slice sa g.code.length sc)) 45))
    have z0 := BF.out.cell0 (i := 0) rfl
    clear hra
    go_wp2_with fail
    (with_reducible refine (HA2.out _).mono ?_)
    rintro e w3 ⟨rfl, o3⟩
    have O3 := Lib.hid (OA.out.trans o3 (by simp))
    have P3 := Lib.hid (OP.out.trans o3 (by simp))
    have BF3 := Lib.hid (BF.out.only o3 (by simp))
    have BM3 := Lib.hid (BA.out.only o3 (by simp))
    have hsz := HO.out.size
    have f1 := BF3.out.cell0 (i := 1) rfl
    have f2 := BF3.out.cell0 (i := 2) rfl
    have f3 := BF3.out.cell0 (i := 3) rfl
    clear o3 z0 m0 m1 y0 y1 y2 y3
    cases ra with
    | false =>
     have HE := Lib.hid (HB1.out (by rw [HFN.out, Bool.false_and]))
     go_wp2_with fail
     exact bodyPost_ret (v := .tuple #[.int .i64 60, .int .i64 j]) (by simp [results, Tryz.results33, go_sem]) rfl ⟨j, by rw [HE.out], O3.out⟩
    | true =>
     have HFN2 := Lib.hid (HFN.out.trans (Bool.true_and _))
     by_cases hb1 : g.locals < g.params
     ·have HE := Lib.hid (HB1.out (by rw [HFN2.out, decide_eq_false (p := g.params ≤ g.locals) (by omega), Bool.false_and, Bool.false_and]))
      go_wp2_with fail
      exact bodyPost_ret (v := .tuple #[.int .i64 60, .int .i64 j]) (by simp [results, Tryz.results33, go_sem]) rfl ⟨j, by rw [HE.out], O3.out⟩
     by_cases hb2 : 32 < g.locals
     ·have HE := Lib.hid (HB1.out (by rw [HFN2.out, decide_eq_false (p := g.locals ≤ 32) (by omega), Bool.and_false, Bool.false_and]))
      go_wp2_with fail
      exact bodyPost_ret (v := .tuple #[.int .i64 60, .int .i64 j]) (by simp [results, Tryz.results33, go_sem]) rfl ⟨j, by rw [HE.out], O3.out⟩
     by_cases hb3 : (g.code.length : Int) < 1
     ·have HE := Lib.hid (HB1.out (by rw [HFN2.out, decide_eq_false (p := 1 ≤ g.code.length) (by omega), Bool.false_and, Bool.and_false]))
      go_wp2_with fail
      exact bodyPost_ret (v := .tuple #[.int .i64 60, .int .i64 j]) (by simp [results, Tryz.results33, go_sem]) rfl ⟨j, by rw [HE.out], O3.out⟩
     by_cases hb4 : (1024 : Int) < (g.code.length : Int)
     ·have HE := Lib.hid (HB1.out (by rw [HFN2.out, decide_eq_false (p := g.code.length ≤ 1024) (by omega), Bool.and_false, Bool.and_false]))
      go_wp2_with fail
      exact bodyPost_ret (v := .tuple #[.int .i64 60, .int .i64 j]) (by simp [results, Tryz.results33, go_sem]) rfl ⟨j, by rw [HE.out], O3.out⟩
     have HOK := Lib.hid (HB3.out (by rw [HFN2.out, decide_eq_true (p := g.params ≤ g.locals) (by omega), decide_eq_true (p := g.locals ≤ 32) (by omega), decide_eq_true (p := 1 ≤ g.code.length) (by omega), decide_eq_true (p := g.code.length ≤ 1024) (by omega)]; rfl))
     go_wp2_with fail
     clear f1 f2 f3 hb1 hb2 hb3 hb4 hp0
     go_loopw [6] (fun v wq => NmRel w3 fs j g.name D v wq) (fun v _ => j - (intOf v).toNat)
     case atStart => exact ⟨0, rfl, Nat.zero_le _, HD.out, Only.refl _ _⟩
     case round =>
      obtain ⟨q, rfl, hq, hqa, ho⟩ := hrel
      have HQ2 := Lib.hid hqa
      have HQO := Lib.hid ho
      have OW := Lib.hid (O3.out.trans ho (by simp))
      have PW := Lib.hid (P3.out.trans ho (by simp))
      have BFq := Lib.hid (BF3.out.only ho (by simp))
      have BMq := Lib.hid (BM3.out.only ho (by simp))
      have f0 := BFq.out.cell0 (i := 0) rfl
      have m1 := BMq.out.cell0 (i := 1) rfl
      clear ho hqa
      by_cases hqj : q < j
      ·have hql : q < fs.length := by omega
       obtain ⟨d0, -, -, sa', sc', -⟩ := HN.out q hql
       have HT := Lib.hid (show (fs.take j).drop q = fs[q]'hql :: (fs.take j).drop (q + 1) from by
        rw [List.drop_eq_getElem_cons (by simp; omega)]
        simp)
       have hq2 := HQ2.out
       rw [HT.out, List.any_cons] at hq2
       have HQ3 := Lib.hid hq2
       have y0 := (OW.out.cell (p := ⟨bl, off + q * 4, none⟩) HB.out (by simp)).trans d0
       clear hq2 HT d0
       generalize fs[q]'hql = h at *
       obtain ⟨eqb, heq⟩ : ∃ eqb, (h.name.toList == g.name.toList) = eqb := ⟨_, rfl⟩
       have heq2 : decide (lst h.name = lst g.name) = eqb := by rw [← heq, eq_names]
       rw [heq2] at HQ3
       clear heq2
       cases eqb with
       | true =>
        have HE := Lib.hid (HB2.out (by rw [← HQ3.out, Bool.true_or]))
        go_wp2_with fail
        go_quiet (fail)
        go_wp2_with fail
        exact bodyPost_ret (v := .tuple #[.int .i64 60, .int .i64 j]) (by simp [results, Tryz.results33, go_sem]) rfl ⟨j, by rw [HE.out], OW.out.drewN _⟩
       | false =>
        have HX := Lib.hid (show ∀ z, NmRel w3 fs j g.name D (.int .i64 ((q : Int) + 1)) (wr.drewN z) from fun z => ⟨q + 1, by go_num, by omega, by simpa using HQ3.out, HQO.out.drewN z⟩)
        go_wp2_with fail
        go_quiet (fail)
        go_wp2_with fail
        go_roundw
        case rel => exact HX.out _
        case measure => simp [intOf]; omega
      ·have hje : q = j := by omega
       subst hje
       have hD : false = D := by
        rw [← HQ2.out, List.drop_eq_nil_of_le (by rw [List.length_take]; exact Nat.min_le_left _ _)]
        rfl
       have HX := Lib.hid (show HdRel w1 fs (.int .i64 ((q : Int) + 1)) wr from ⟨q + 1, by go_num, by omega, HOK.out hD, PW.out⟩)
       clear hD hq
       go_wp2_with fail
       go_roundw
       case rel => exact HX.out
       case measure => simp [intOf]; omega
   ·have hje : j = fs.length := by omega
    have HE := Lib.hid (H0.out (by
     unfold hdOk
     dsimp only
     rw [HR1.out, HLS.out, show (List.range fs.length).all (hdAt fs) = true from List.all_eq_true.2 fun i hi => HQ.out i (by have := List.mem_range.1 hi; omega)]
     rfl))
    subst hje
    clear hj
    go_wp2_with fail
    exact bodyPost_ret (v := .tuple #[.int .i64 0, .int .i64 0]) (by simp [results, Tryz.results33, go_sem]) rfl ⟨0, by rw [HE.out], HO.out⟩
end Go.Proofs.YtcdefnbehlcgeaaGreatDoor
