/- Sums of bytes: the program's, the document's; the four bytes of a sum.. The document's Seal.. The document's Unpack, given what its Check answers.. -/
import Derived.Test.YtcdefnbehlcgeaaGreatDoorWbm
import Derived.Laws.IdiomStrings
import Derived.Test.YtcdefnbehlcgeaaGreatDoorWbu
set_option maxHeartbeats 8000000
set_option maxRecDepth 20000
set_option linter.unusedSimpArgs false
set_option linter.unusedVariables false
namespace Go.Proofs.YtcdefnbehlcgeaaGreatDoor
open Go.RowKit
def adlS (x : Nat × Nat) (c : UInt8) : Nat × Nat := ((x.1 + c.toNat) % 65521, (x.2 + (x.1 + c.toNat) % 65521) % 65521)
def adl (s : ByteArray) (i : Nat) : Nat × Nat := ((lst s).take i).foldl adlS (1, 0)
theorem adl_zero (s : ByteArray) : adl s 0 = (1, 0) := rfl
theorem adl_succ {s : ByteArray} {i : Nat} (h : i < s.size) : adl s (i + 1) = adlS (adl s i) (s[i]'h) := by
 have hl : i < (lst s).length := by rw [lst_len]; exact h
 unfold adl
 rw [List.take_succ_eq_append_getElem hl, List.foldl_append]
 have e : (lst s)[i] = s[i]'h := by simp only [lst, Array.getElem_toList]; rfl
 rw [e]
 rfl
theorem adl_bd (s : ByteArray) : ∀ i, i ≤ s.size → (adl s i).1 < 65521 ∧ (adl s i).2 < 65521
 | 0, _ => by rw [adl_zero]; decide
 | i + 1, h => by
  rw [adl_succ (by omega)]
  exact ⟨Nat.mod_lt _ (by decide), Nat.mod_lt _ (by decide)⟩
def sumN (s : ByteArray) : Nat := (adl s s.size).2 * 65536 + (adl s s.size).1
theorem sumN_bd (s : ByteArray) : sumN s < 4294967296 := by
 have := adl_bd s s.size (Nat.le_refl _)
 unfold sumN
 omega
theorem dsum_any (s : ByteArray) (w : World) (hs : s.size ≤ 262144) : Calls Tryz.prog 32 #[.string s] w fun e w' => e = .returned (.int .i64 (sumN s)) ∧ w = w' := by
 obtain ⟨r, hr⟩ : ∃ r, sumN s = r := ⟨_, rfl⟩
 have HR := Lib.hid hr
 rw [hr]
 clear hr
 go_enter Tryz.func32, Tryz.ntmps32
 go_wp2_with fail
 go_loopw [3, 4, 5] (fun av bv iv wr => ∃ i a c : Nat, av = .int .i64 a ∧ bv = .int .i64 c ∧ iv = .int .i64 i ∧ i ≤ s.size ∧ adl s i = (a, c) ∧ w = wr) (fun _ _ iv _ => s.size - (intOf iv).toNat)
 case atStart => exact ⟨0, 1, 0, rfl, rfl, rfl, Nat.zero_le _, rfl, rfl⟩
 case round =>
  obtain ⟨i, a, c, rfl, rfl, rfl, hi, ha, rfl⟩ := hrel
  have hbd := adl_bd s i hi
  rw [ha] at hbd
  have HA := Lib.hid ha
  clear ha
  dsimp only at hbd
  by_cases hlt : i < s.size
  ·have hl' : (i : Int) < (s.size : Int) := by omega
   have hc := UInt8.toNat_lt (s[i]'hlt)
   have HS := Lib.hid (adl_succ hlt)
   go_wp2_with fail
   go_roundw
   case rel => exact ⟨i + 1, (a + (s[i]'hlt).toNat) % 65521, (c + (a + (s[i]'hlt).toNat) % 65521) % 65521, by go_num, by go_num, by go_num, hlt, by rw [HS.out, HA.out]; rfl, trivial⟩
   case measure =>
    simp [intOf]
    omega
  ·have hl' : ¬ (i : Int) < (s.size : Int) := by omega
   obtain rfl : i = s.size := by omega
   have hre : (c : Int) * 65536 + (a : Int) = (r : Int) := by
    rw [← HR.out]
    unfold sumN
    rw [HA.out]
    omega
   go_wp2_with fail
   go_ret
   exact ⟨ret_int (by omega), rfl⟩
theorem psum_any (s : ByteArray) (w : World) (hs : s.size ≤ 262144) : Calls Tryz.prog 17 #[.string s] w fun e w' => e = .returned (.int .i64 (sumN s)) ∧ w = w' := by
 obtain ⟨r, hr⟩ : ∃ r, sumN s = r := ⟨_, rfl⟩
 have HR := Lib.hid hr
 rw [hr]
 clear hr
 go_enter Tryz.func17, Tryz.ntmps17
 go_wp2_with fail
 go_loopw [3, 4, 5, 8] (fun av bv _ iv wr => ∃ i a c : Nat, av = .int .i64 a ∧ bv = .int .i64 c ∧ iv = .int .i64 i ∧ i ≤ s.size ∧ adl s i = (a, c) ∧ w = wr) (fun _ _ _ iv _ => s.size - (intOf iv).toNat)
 case atStart => exact ⟨0, 1, 0, rfl, rfl, rfl, Nat.zero_le _, rfl, rfl⟩
 case round =>
  obtain ⟨i, a, c, rfl, rfl, rfl, hi, ha, rfl⟩ := hrel
  have hbd := adl_bd s i hi
  rw [ha] at hbd
  have HA := Lib.hid ha
  clear ha
  dsimp only at hbd
  by_cases hlt : i < s.size
  ·have hl' : (i : Int) < (s.size : Int) := by omega
   have hc := UInt8.toNat_lt (s[i]'hlt)
   have HS := Lib.hid (adl_succ hlt)
   go_wp2_with fail
   go_roundw
   case rel => exact ⟨i + 1, (a + (s[i]'hlt).toNat) % 65521, (c + (a + (s[i]'hlt).toNat) % 65521) % 65521, by go_num, by go_num, by go_num, hlt, by rw [HS.out, HA.out]; rfl, trivial⟩
   case measure =>
    simp [intOf]
    omega
  ·have hl' : ¬ (i : Int) < (s.size : Int) := by omega
   obtain rfl : i = s.size := by omega
   have hre : (c : Int) * 65536 + (a : Int) = (r : Int) := by
    rw [← HR.out]
    unfold sumN
    rw [HA.out]
    omega
   go_wp2_with fail
   go_ret
   exact ⟨ret_int (by omega), rfl⟩
def byte4 (n k : Nat) : UInt8 := UInt8.ofNat (n / 256 ^ k % 256)
def sumB (s : ByteArray) : ByteArray := ⟨#[byte4 (sumN s) 0, byte4 (sumN s) 1, byte4 (sumN s) 2, byte4 (sumN s) 3]⟩
theorem byte4_nat (n k : Nat) : (byte4 n k).toNat = n / 256 ^ k % 256 := by
 unfold byte4
 rw [UInt8.toNat_ofNat']
 omega
theorem conv4 (n : Nat) (hn : n < 4294967296) (w : World) : (convert 69 9 (.slice (some ⟨w.heap.size, 0, none⟩) 4 4)).run Tryz.prog (w.alloc (.cells #[.int .u8 ((n : Int) % 256), .int .u8 ((n : Int) / 256 % 256), .int .u8 ((n : Int) / 65536 % 256), .int .u8 ((n : Int) / 16777216)] 5)) = .ok (.string ⟨#[byte4 n 0, byte4 n 1, byte4 n 2, byte4 n 3]⟩) (w.alloc (.cells #[.int .u8 ((n : Int) % 256), .int .u8 ((n : Int) / 256 % 256), .int .u8 ((n : Int) / 65536 % 256), .int .u8 ((n : Int) / 16777216)] 5)) := by
 have B := Bk.made w 5 #[.int .u8 ((n : Int) % 256), .int .u8 ((n : Int) / 256 % 256), .int .u8 ((n : Int) / 65536 % 256), .int .u8 ((n : Int) / 16777216)]
 refine run_convert_bytes_back (P := Tryz.prog) _ 69 9 5 ⟨w.heap.size, 0, none⟩ 4 [byte4 n 0, byte4 n 1, byte4 n 2, byte4 n 3] Tryz.underlying69 Tryz.underlying5 Tryz.underlying9 (fun j hj => ?_)
 have e0 : ((n : Int) % 256) = (((byte4 n 0).toNat : Nat) : Int) := by rw [byte4_nat, Nat.pow_zero, Nat.div_one]; omega
 have e1 : ((n : Int) / 256 % 256) = (((byte4 n 1).toNat : Nat) : Int) := by rw [byte4_nat, show 256 ^ 1 = 256 from rfl]; omega
 have e2 : ((n : Int) / 65536 % 256) = (((byte4 n 2).toNat : Nat) : Int) := by rw [byte4_nat, show 256 ^ 2 = 65536 from rfl]; omega
 have e3 : ((n : Int) / 16777216) = (((byte4 n 3).toNat : Nat) : Int) := by rw [byte4_nat, show 256 ^ 3 = 16777216 from rfl]; omega
 simp only [List.length_cons, List.length_nil] at hj
 obtain rfl | rfl | rfl | rfl : j = 0 ∨ j = 1 ∨ j = 2 ∨ j = 3 := by omega
 ·exact (B.cell0 (i := 0) rfl).trans (congrArg (fun z => some (Value.int .u8 z)) e0)
 ·exact (B.cell0 (i := 1) rfl).trans (congrArg (fun z => some (Value.int .u8 z)) e1)
 ·exact (B.cell0 (i := 2) rfl).trans (congrArg (fun z => some (Value.int .u8 z)) e2)
 ·exact (B.cell0 (i := 3) rfl).trans (congrArg (fun z => some (Value.int .u8 z)) e3)
theorem sumBytes_any (s : ByteArray) (w : World) (hs : s.size ≤ 262144) : Calls Tryz.prog 9 #[.string s] w fun e w' => e = .returned (.string (sumB s)) ∧ Only [] w w' := by
 have HS := Lib.hid (fun W => psum_any s W hs)
 have hbd := sumN_bd s
 unfold sumB
 generalize sumN s = n at HS hbd ⊢
 have hcv := conv4 n hbd w
 have O := Lib.hid ((Only.refl [] w).alloc (.cells #[.int .u8 ((n : Int) % 256), .int .u8 ((n : Int) / 256 % 256), .int .u8 ((n : Int) / 65536 % 256), .int .u8 ((n : Int) / 16777216)] 5))
 go_enter Tryz.func9, Tryz.ntmps9
 go_wp2_with fail
 (with_reducible refine (HS.out _).mono ?_)
 rintro e w1 ⟨rfl, rfl⟩
 go_wp2_with fail
 go_ret
 exact ⟨rfl, O.out⟩
open Go.RowKit
def gb (s : ByteArray) (i : Nat) : Nat := if h : i < s.size then (s[i]'h).toNat else 0
theorem gb_at {s : ByteArray} {i : Nat} (h : i < s.size) : (s[i]'h).toNat = gb s i := by unfold gb; rw [dif_pos h]
theorem gb_bd (s : ByteArray) (i : Nat) : gb s i < 256 := by
 unfold gb
 split
 ·exact UInt8.toNat_lt _
 ·decide
def leK (s : ByteArray) (p : Nat) : Nat → Nat
 | 0 => 0
 | k + 1 => leK s p k * 256 + gb s (p + (3 - k))
theorem leK_bd (s : ByteArray) (p : Nat) : ∀ k, leK s p k < 256 ^ k
 | 0 => Nat.one_pos
 | k + 1 => by
  have h1 := leK_bd s p k
  have h2 := gb_bd s (p + (3 - k))
  rw [Nat.pow_succ]
  unfold leK
  omega
def sealE (s : ByteArray) (p : Nat) (bd : Int) : Int × Int :=
 if bd = -1 then if s.size = p + 4 then (if leK s p 4 = sumN (s.extract 0 p) then 0 else 81, -1) else (80, p) else (80, bd)
theorem seal_any (s : ByteArray) (b p : Nat) (bd : Int) (w : World) (hb : Rdc w b s p bd) (hg : Gd s p bd) (hs : s.size ≤ 262144) :
 Calls Tryz.prog 12 #[.pointer (some ⟨b, 0, none⟩)] w fun e w' => e = .returned (.int .i64 (sealE s p bd).1) ∧ Rdc w' b s p (sealE s p bd).2 ∧ Only [b] w w' := by
 obtain ⟨c0, c1, c2⟩ := hb.three
 have HB := Lib.hid hb
 have z0 : ∀ x : Cm w, x.1.cell? ⟨b, 0, none⟩ = some (.string s) := Cm.cell c0
 have z1 : ∀ x : Cm w, x.1.cell? ⟨b, 1, none⟩ = some (.int .i64 p) := Cm.cell c1
 have z2 : ∀ x : Cm w, x.1.cell? ⟨b, 2, none⟩ = some (.int .i64 bd) := Cm.cell c2
 rcases hg with ⟨rfl, hp⟩ | ⟨t, rfl⟩
 ·by_cases h4 : s.size = p + 4
  ·have hq : (s.size : Int) - (p : Int) = 4 := by omega
   have hl : (p : Int) ≤ (s.size : Int) := by omega
   obtain ⟨r, hr⟩ : ∃ r, sealE s p (-1) = (if leK s p 4 = r then 0 else 81, -1) ∧ sumN (s.extract 0 p) = r := ⟨_, by unfold sealE; rw [if_pos rfl, if_pos h4], rfl⟩
   rw [hr.1]
   obtain ⟨V, hV⟩ : ∃ V : Int, (if leK s p 4 = r then (0 : Int) else 81) = V := ⟨_, rfl⟩
   have HV := Lib.hid hV
   rw [hV]
   clear hV
   have HS : Hid (∀ W, Calls Tryz.prog 32 #[.string (s.extract 0 p)] W fun e w' => e = .returned (.int .i64 r) ∧ W = w') := Lib.hid (fun W => by
    have := dsum_any (s.extract 0 p) W (by rw [ByteArray.size_extract]; omega)
    rwa [hr.2] at this)
   clear hr
   go_enter Tryz.func12, Tryz.ntmps12
   go_wp2_with fail
   refine wp_region_calm (by kernel_rfl) (by kernel_rfl) ?_
   repeat (go_big_quiet_step (fail))
   refine wpQuiet_nil ?_
   rintro w5 ⟨⟨w5', o5⟩, e5⟩
   obtain rfl : w5 = w5' := e5
   have B5 := Bk.only HB.out o5 (by simp)
   have HB5 := Lib.hid B5
   have HO5 := Lib.hid o5
   obtain ⟨d0, d1, d2⟩ := Rdc.three B5
   clear z0 z1 z2 o5 B5
   go_wp2_with fail
   go_loopw [3, 4] (fun nv kv wr => ∃ k : Nat, k ≤ 4 ∧ nv = .int .i64 (leK s p k) ∧ kv = .int .i64 (3 - (k : Int)) ∧ Only [] w5 wr) (fun _ kv _ => ((intOf kv) + 1).toNat)
   case atStart => exact ⟨0, by omega, rfl, rfl, Only.refl _ _⟩
   case round =>
    obtain ⟨k, hk, rfl, rfl, ho⟩ := hrel
    have B6 := Bk.only HB5.out ho (by simp)
    obtain ⟨d0, d1, d2⟩ := Rdc.three B6
    have y0 : ∀ x : Cm wr, x.1.cell? ⟨b, 0, none⟩ = some (.string s) := Cm.cell d0
    have y1 : ∀ x : Cm wr, x.1.cell? ⟨b, 1, none⟩ = some (.int .i64 p) := Cm.cell d1
    have HO := Lib.hid ho
    have HB6 := Lib.hid B6
    clear ho B6
    by_cases hk4 : k < 4
    ·have g1 : (0 : Int) ≤ 3 - (k : Int) := by omega
     have hix : p + (3 - k) < s.size := by omega
     have hin : ((p : Int) + (3 - (k : Int))).toNat = p + (3 - k) := by omega
     have hn0 : (0 : Int) ≤ (p : Int) + (3 - (k : Int)) := by omega
     have hn1 : (p : Int) + (3 - (k : Int)) < (s.size : Int) := by omega
     have hbk := leK_bd s p k
     have hp4 : (256 : Nat) ^ k ≤ 256 ^ 3 := Nat.pow_le_pow_right (by omega) (by omega)
     have hgb := gb_bd s (p + (3 - k))
     have hga := gb_at hix
     go_wp2_with fail
     refine wp_region_calm (by kernel_rfl) (by kernel_rfl) ?_
     repeat (go_big_quiet_step (fail))
     refine wpQuiet_nil ?_
     rintro w6 ⟨⟨w6', o6⟩, e6⟩
     obtain rfl : w6 = w6' := e6
     have HO6 := Lib.hid (HO.out.trans o6 (by simp))
     clear y0 y1 o6
     go_wp2_with fail
     go_roundw
     case rel => exact ⟨k + 1, by omega, rfl, by go_num, HO6.out⟩
     case measure =>
      simp [intOf]
      omega
    ·have g1 : ¬ (0 : Int) ≤ 3 - (k : Int) := by omega
     obtain rfl : k = 4 := by omega
     have hsl : (p : Int) ≤ (s.size : Int) := by omega
     go_wp2_with fail
     refine wp_region_calm (by kernel_rfl) (by kernel_rfl) ?_
     have KC := Lib.hid (fun x : Cm wr => HS.out x.1)
     repeat (go_big_quiet_step ((go_at_call 32; exact calmE (KC.out _))))
     refine wpQuiet_nil ?_
     rintro w6 ⟨⟨w6', o6⟩, e6⟩
     obtain rfl : w6 = w6' := e6
     have R6 := Lib.hid (Bk.only HB6.out o6 (by simp))
     have HO6 := Lib.hid (((HO5.out.trans HO.out (by simp)).trans o6 (by simp)).more (T := [b]) (by simp))
     by_cases hr : leK s p 4 = r
     ·have hr' : (leK s p 4 : Int) = (r : Int) := by omega
      clear y0 y1 o6
      go_wp2_with fail
      go_ret
      exact ⟨ret_int (by rw [← HV.out, if_pos hr]), R6.out, HO6.out⟩
     ·have hr' : ¬ (leK s p 4 : Int) = (r : Int) := by omega
      clear y0 y1 o6
      go_wp2_with fail
      go_ret
      exact ⟨ret_int (by rw [← HV.out, if_neg hr]), R6.out, HO6.out⟩
  ·have hq : ¬ (s.size : Int) - (p : Int) = 4 := by omega
   have hp0 : (0 : Int) ≤ (p : Int) := by omega
   have HW := Lib.hid (fun w1 (h : Rdc w1 b s p (-1)) => wrong_any b s p p w1 h)
   rw [show sealE s p (-1) = (80, (p : Int)) by unfold sealE; rw [if_pos rfl, if_neg h4]]
   go_enter Tryz.func12, Tryz.ntmps12
   go_wp2_with fail
   refine wp_region_calm (by kernel_rfl) (by kernel_rfl) ?_
   repeat (go_big_quiet_step (fail))
   refine wpQuiet_nil ?_
   rintro w5 ⟨⟨w5', o5⟩, e5⟩
   obtain rfl : w5 = w5' := e5
   have B5 := Bk.only HB.out o5 (by simp)
   have HB5 := Lib.hid B5
   have HO5 := Lib.hid (o5.more (T := [b]) (by simp))
   obtain ⟨d0, d1, d2⟩ := Rdc.three B5
   clear z0 z1 z2 o5 B5
   go_wp2_with fail
   (with_reducible refine (HW.out _ HB5.out).mono ?_)
   rintro e w6 ⟨rfl, g3, g4⟩
   obtain ⟨d0, d1, d2⟩ := Rdc.three g3
   have R6 := Lib.hid g3
   have HO6 := Lib.hid (HO5.out.trans g4 (fun i hi => .inl hi))
   clear g3 g4
   go_wp2_with fail
   go_ret
   exact ⟨rfl, R6.out, HO6.out⟩
 ·have ht0 : ¬ (t : Int) < 0 := by omega
  have htd : decide ((t : Int) < 0) = false := decide_eq_false ht0
  have ht1 : (0 : Int) ≤ (t : Int) := by omega
  rw [show sealE s p (t : Int) = (80, (t : Int)) by unfold sealE; rw [if_neg (by omega)]]
  go_enter Tryz.func12, Tryz.ntmps12
  go_wp2_with fail
  refine wp_region_calm (by kernel_rfl) (by kernel_rfl) ?_
  repeat (go_big_quiet_step (fail))
  refine wpQuiet_nil ?_
  rintro w5 ⟨⟨w5', o5⟩, e5⟩
  obtain rfl : w5 = w5' := e5
  have B5 := Bk.only HB.out o5 (by simp)
  have HB5 := Lib.hid B5
  have HO5 := Lib.hid (o5.more (T := [b]) (by simp))
  obtain ⟨d0, d1, d2⟩ := Rdc.three B5
  clear z0 z1 z2 o5 B5
  go_wp2_with fail
  go_ret
  exact ⟨rfl, HB5.out, HO5.out⟩
open Go.RowKit
def ChkOk (f : FuncId) (C : Md → Int) : Prop := ∀ (s : ByteArray) (md : Md) (q : Nat) (F : Nat → Prop) (us : Array Value) (w : World), rMod s = .ok md q → s.size ≤ 262144 → (∀ g, F g → g < w.heap.size) → DVs w F md.ds us.toList →
 Calls Tryz.prog f #[.agg us] w fun e w' => ∃ x y : Int, e = .returned (.tuple #[.int .i64 (C md), .int .i64 x, .int .i64 y]) ∧ Only [] w w'
def unpE (C : Md → Int) (s : ByteArray) : Int × Int × Option Md :=
 if 262144 < s.size then (4, 0, none) else
 match rMod s with
 | .bad t => (80, t, none)
 | .ok md q => if s.size = q + 4 then (if leK s q 4 = sumN (s.extract 0 q) then (if C md = 0 then (0, 0, some md) else (C md, 0, none)) else (81, q, none)) else (80, q, none)
def UnpE (r : Int × Int × Option Md) (w : World) (e : Ending) (w' : World) : Prop :=
 ∃ us : Array Value, e = .returned (.tuple #[.agg us, .int .i64 r.1, .int .i64 r.2.1]) ∧ Only [] w w' ∧ us.size = 2 ∧
  match r.2.2 with
  | some md => DVs w' (fun g => w.heap.size ≤ g) md.ds us.toList
  | none => us = ZM
theorem Fr2.alloc {w : World} {m : Nat} {ty : TypeId} {zs cs : Array Value} (h : Fr2 w m ty zs cs) (o : Obj) : Fr2 (w.alloc o) m ty zs cs := ⟨Bk.alloc h.o o, Bk.alloc h.t o⟩
theorem Bk.madeAt' {w : World} {t : TypeId} {cs : Array Value} {b : Nat} (h : b = w.heap.size) : Bk (w.alloc (.cells cs t)) b t cs := by subst h; exact Bk.made w t cs
theorem md_cells {us : Array Value} (h : us.size = 2) : ∃ y0 y1, us = #[y0, y1] := by
 rcases us with ⟨l⟩
 match l, h with
 | [a, b], _ => exact ⟨_, _, rfl⟩
theorem un_end {w w2 : World} {m : Nat} {cs : Array Value} (h : Fr2 w2 m 24 ZM cs) (O : Only [] w w2) (hm : w.heap.size = m) (v0 v1 : Value) :
 Bk ((w2.setCell ⟨m, 0, none⟩ v0).setCell ⟨m, 1, none⟩ v1) m 24 #[v0, v1] ∧ Only [] w ((w2.setCell ⟨m, 0, none⟩ v0).setCell ⟨m, 1, none⟩ v1) := by
 have h1 := Bk.set (Bk.set h.o 0 v0) 1 v1
 exact ⟨by simpa using h1, (O.set (p := ⟨m, 0, none⟩) (.inr (by show w.heap.size ≤ m; omega)) v0).set (p := ⟨m, 1, none⟩) (.inr (by show w.heap.size ≤ m; omega)) v1⟩
theorem un_row {w w4 W' : World} {cs us : Array Value} {l : List D} (h : Fr2 w4 w.heap.size 24 ZM cs) (O : Only [] w w4) (hd : DVs w4 (fun g => w.heap.size + 3 ≤ g) l us.toList) (e : W' = w4.setRow w.heap.size us) :
 Bk W' w.heap.size 24 us ∧ Only [] w W' ∧ DVs W' (fun g => w.heap.size ≤ g) l us.toList := by
 obtain ⟨h1, h2⟩ := setRow_bk h.o us
 subst e
 exact ⟨h1, O.trans h2 (fun i hi => .inr (by simp at hi; omega)), DVs.only h2 (fun g hg hf => by simp at hg; omega) (fun g hf => by omega) hd⟩
theorem dunpack_any (C : Md → Int) (hC : ChkOk 13 C) (s : ByteArray) (w : World) : Calls Tryz.prog 5 #[.string s] w fun e w' => UnpE (unpE C s) w e w' := by
 obtain ⟨r, hr⟩ : ∃ r, unpE C s = r := ⟨_, rfl⟩
 rw [hr]
 have HR := Lib.hid hr
 clear hr
 by_cases hs : 262144 < s.size
 ·have hs' : (262144 : Int) < (s.size : Int) := by omega
  have HO := Lib.hid (Only.refl [] w)
  have hre : r = (4, 0, none) := by rw [← HR.out]; unfold unpE; rw [if_pos hs]
  subst hre
  go_enter Tryz.func5, Tryz.ntmps5
  go_wp2_with fail
  have F0 := Fr2.made w 24 ZM
  have O0 := ((Only.refl [] w).alloc (.cells ZM 24)).alloc (.cells ZM 24)
  obtain ⟨z0, z1⟩ := Bk.two2 F0.o
  exact bodyPost_ret (v := .tuple #[.agg ZM, .int .i64 4, .int .i64 0]) (by simp [results, Tryz.results5, go_sem, z0, z1]) rfl ⟨ZM, rfl, O0, rfl, rfl⟩
 ·have hs' : ¬ (262144 : Int) < (s.size : Int) := by omega
  have HM := Lib.hid (fun b W (h : Rdc W b s 0 (-1)) => dmod_any s b W h (by omega))
  go_enter Tryz.func5, Tryz.ntmps5
  have F0 := Lib.hid (Fr2.alloc (Fr2.made w 24 ZM) (.cells #[.string s, .int .i64 0, .int .i64 (-1)] 40))
  have R0 : Hid (Rdc (((w.alloc (.cells ZM 24)).alloc (.cells ZM 24)).alloc (.cells #[.string s, .int .i64 0, .int .i64 (-1)] 40)) (w.heap.size + 1 + 1) s 0 (-1)) := Lib.hid (Bk.madeAt' (w := (w.alloc (.cells ZM 24)).alloc (.cells ZM 24)) (t := 40) (cs := #[.string s, .int .i64 ((0 : Nat) : Int), .int .i64 (-1)]) (by rw [size_al, size_al]))
  have O0 := Lib.hid ((((Only.refl [] w).alloc (.cells ZM 24)).alloc (.cells ZM 24)).alloc (.cells #[.string s, .int .i64 0, .int .i64 (-1)] 40))
  go_wp2_with fail
  (with_reducible refine (HM.out _ _ R0.out).mono ?_)
  rintro e w1 ⟨us, l, p, bd, rfl, hus, hl, ho, hd, hr1, on1, hst⟩
  obtain ⟨y0, y1, rfl⟩ := md_cells hus
  have u0 := DVs.one hd ho
  have hone : (#[y0, y1] : Array Value).all (·.oneCell') = true := by
   rw [Array.all_eq_true']
   intro v hv
   exact u0 v (Array.mem_toList_iff.2 hv)
  have HMd := Lib.hid (setRow_made w1 24 ZM #[y0, y1])
  have F1' := Lib.hid (F0.out.onlyS on1 (fun i hi => by simp at hi; omega))
  have R1' := Lib.hid hr1
  have O1' := Lib.hid (O0.out.trans on1 (fun i hi => .inr (by simp at hi; omega)))
  have D1' := Lib.hid hd
  have hsz1 := on1.size
  rw [size_al, size_al, size_al] at hsz1
  have ST := Lib.hid hst
  clear hr1 on1 hst hd HM F0 R0 O0
  go_wp2_with (refine wpList_store_row (by rfl) _ _ _ (by rfl) w1.heap.size #[y0, y1] (by rfl) (by rfl) 24 ZM (Bk.made w1 _ _) (by rw [size2]; rfl) (by rfl) hone ?_; have HM2 := HMd.out; generalize World.setRow _ _ _ = W3 at HM2 ⊢; clear HMd; obtain ⟨B3, O3, S3⟩ := HM2; have HB3 := Lib.hid B3; have HO3 := Lib.hid O3; clear B3 O3)
  have F1 := Lib.hid (F1'.out.onlyS HO3.out (by simp))
  have R1 := Lib.hid (Bk.only R1'.out HO3.out (by simp))
  have B1 := HB3
  have O1 := Lib.hid (O1'.out.trans HO3.out (by simp))
  have D1 := Lib.hid (DVs.only HO3.out (by simp) (fun _ h => h) D1'.out)
  have HS := Lib.hid (seal_any s (w.heap.size + 1 + 1) p bd _ R1.out (DS.gd ST.out) (by omega))
  (with_reducible refine HS.out.mono ?_)
  rintro e w2 ⟨rfl, g3, g4⟩
  have hst := ST.out
  have F2 := Lib.hid (F1.out.onlyS g4 (fun i hi => by simp at hi; omega))
  have O2 := Lib.hid (O1.out.trans g4 (fun i hi => .inr (by simp at hi; omega)))
  have B2 := Lib.hid (B1.out.only g4 (by simp; omega))
  have D2 := Lib.hid (DVs.only g4 (F' := fun g => w.heap.size + 3 ≤ g) (fun g hg hf => by rw [size_al, size_al, size_al] at hf; simp at hg; omega) (fun g hf => by rw [size_al, size_al, size_al] at hf; omega) D1.out)
  obtain ⟨a0, a1⟩ := Bk.two2 F2.out.o
  obtain ⟨b0, b1⟩ := Bk.two2 F2.out.t
  have fa0 := F2.out.o.free 0
  have fa1 := F2.out.o.free 1
  cases hrm : rMod s with
  | bad t =>
   rw [hrm] at hst
   have hbd : bd = (t : Int) := hst
   subst hbd
   have hse : sealE s p (t : Int) = (80, (t : Int)) := by unfold sealE; rw [if_neg (by omega)]
   rw [hse] at g3 ⊢
   obtain ⟨c0, c1, c2⟩ := Rdc.three g3
   have hre : r = (80, (t : Int), none) := by rw [← HR.out]; unfold unpE; rw [if_neg hs, hrm]
   subst hre
   clear g3 g4 HS F1 R1 B1 O1 D1 ST F1' R1' O1' D1'
   go_wp2_with fail
   go_region
   obtain ⟨E1, E2⟩ := un_end F2.out O2.out rfl (.string ⟨#[]⟩) (.slice none 0 0)
   obtain ⟨z0, z1⟩ := Bk.two2 (Bk.drew E1)
   go_wp2_with fail
   exact bodyPost_ret (v := .tuple #[.agg ZM, .int .i64 80, .int .i64 t]) (by simp [results, Tryz.results5, go_sem, z0, z1]) rfl ⟨ZM, rfl, E2.drew, rfl, rfl⟩
  | ok md q =>
   rw [hrm] at hst
   obtain ⟨rfl, rfl, rfl, hps⟩ := hst
   by_cases h4 : s.size = p + 4
   ·by_cases hle : leK s p 4 = sumN (s.extract 0 p)
    ·have hse : sealE s p (-1) = (0, -1) := by unfold sealE; rw [if_pos rfl, if_pos h4, if_pos hle]
     rw [hse] at g3 ⊢
     obtain ⟨c0, c1, c2⟩ := Rdc.three g3
     have hsz2 := Bk.lt F2.out.t
     have HCk := Lib.hid (hC s md p (fun g => w.heap.size + 3 ≤ g ∧ g < w2.heap.size) #[y0, y1] w2 hrm (by omega) (fun g hg => hg.2) (DVs.lt D2.out))
     have hre : r = if C md = 0 then (0, 0, some md) else (C md, 0, none) := by rw [← HR.out]; unfold unpE; rw [if_neg hs, hrm]; simp only [if_pos h4, if_pos hle]
     clear g3 g4 HS F1 R1 B1 O1 D1 ST F1' R1' O1' D1'
     go_wp2_with (refine wpList_load_row (by rfl) 24 _ (by rfl) w1.heap.size (by rfl) 24 #[y0, y1] (0, 0) _ B2.out Tryz.underlying24 (by rfl) (by rw [size2]; rfl) ?_)
     (with_reducible refine HCk.out.mono ?_)
     rintro e w4 ⟨x, y, rfl, o4⟩
     have F4 := Lib.hid (F2.out.onlyS o4 (by simp))
     have B4 := Lib.hid (B2.out.only o4 (by simp))
     have O4 := Lib.hid (O2.out.trans o4 (by simp))
     have D4 := Lib.hid (DVs.only o4 (by simp) (fun _ h => h) D2.out)
     obtain ⟨a0, a1⟩ := Bk.two2 F4.out.o
     obtain ⟨b0, b1⟩ := Bk.two2 F4.out.t
     have fa0 := F4.out.o.free 0
     have fa1 := F4.out.o.free 1
     by_cases hc : C md = 0
     ·rw [if_pos hc] at hre
      subst hre
      rw [hc]
      have HE := Lib.hid (fun W' => un_row (W' := W') F4.out O4.out D4.out)
      clear o4 HCk a0 a1 b0 b1 fa0 fa1
      go_wp2_with (first
       | (refine wpList_load_row (by rfl) 24 _ (by rfl) w1.heap.size (by rfl) 24 #[y0, y1] (0, 0) _ B4.out Tryz.underlying24 (by rfl) (by rw [size2]; rfl) ?_)
       | (refine wpList_store_row (by rfl) _ _ _ (by rfl) w.heap.size #[y0, y1] (by rfl) (by rfl) 24 ZM F4.out.o (by rw [size2]; rfl) (by rfl) hone ?_; have HE2 := HE.out _ rfl; generalize World.setRow _ _ _ = W5 at HE2 ⊢; clear HE; obtain ⟨e1, e2⟩ := HE2; have E2 := Lib.hid e2; obtain ⟨z0, z1⟩ := Bk.two2 e1; clear e1 e2))
      exact bodyPost_ret (v := .tuple #[.agg #[y0, y1], .int .i64 0, .int .i64 0]) (by simp [results, Tryz.results5, go_sem, z0, z1]) rfl ⟨#[y0, y1], rfl, E2.out.1, rfl, E2.out.2⟩
     ·rw [if_neg hc] at hre
      subst hre
      clear o4 HCk
      have hc' : ¬ C md = 0 := hc
      obtain ⟨E1, E2⟩ := un_end F4.out O4.out rfl (.string ⟨#[]⟩) (.slice none 0 0)
      obtain ⟨z0, z1⟩ := Bk.two2 E1
      go_wp2_with fail
      exact bodyPost_ret (v := .tuple #[.agg ZM, .int .i64 (C md), .int .i64 0]) (by simp [results, Tryz.results5, go_sem, z0, z1]) rfl ⟨ZM, rfl, E2, rfl, rfl⟩
    ·have hse : sealE s p (-1) = (81, -1) := by unfold sealE; rw [if_pos rfl, if_pos h4, if_neg hle]
     rw [hse] at g3 ⊢
     obtain ⟨c0, c1, c2⟩ := Rdc.three g3
     have hre : r = (81, (p : Int), none) := by rw [← HR.out]; unfold unpE; rw [if_neg hs, hrm]; simp only [if_pos h4, if_neg hle]
     subst hre
     clear g3 g4 HS F1 R1 B1 O1 D1 ST F1' R1' O1' D1'
     go_wp2_with fail
     go_region
     obtain ⟨E1, E2⟩ := un_end F2.out O2.out rfl (.string ⟨#[]⟩) (.slice none 0 0)
     obtain ⟨z0, z1⟩ := Bk.two2 (Bk.drew E1)
     go_wp2_with fail
     exact bodyPost_ret (v := .tuple #[.agg ZM, .int .i64 81, .int .i64 p]) (by simp [results, Tryz.results5, go_sem, z0, z1]) rfl ⟨ZM, rfl, E2.drew, rfl, rfl⟩
   ·have hse : sealE s p (-1) = (80, (p : Int)) := by unfold sealE; rw [if_pos rfl, if_neg h4]
    rw [hse] at g3 ⊢
    obtain ⟨c0, c1, c2⟩ := Rdc.three g3
    have hre : r = (80, (p : Int), none) := by rw [← HR.out]; unfold unpE; rw [if_neg hs, hrm]; simp only [if_neg h4]
    subst hre
    clear g3 g4 HS F1 R1 B1 O1 D1 ST F1' R1' O1' D1'
    go_wp2_with fail
    go_region
    obtain ⟨E1, E2⟩ := un_end F2.out O2.out rfl (.string ⟨#[]⟩) (.slice none 0 0)
    obtain ⟨z0, z1⟩ := Bk.two2 (Bk.drew E1)
    go_wp2_with fail
    exact bodyPost_ret (v := .tuple #[.agg ZM, .int .i64 80, .int .i64 p]) (by simp [results, Tryz.results5, go_sem, z0, z1]) rfl ⟨ZM, rfl, E2.drew, rfl, rfl⟩
end Go.Proofs.YtcdefnbehlcgeaaGreatDoor
