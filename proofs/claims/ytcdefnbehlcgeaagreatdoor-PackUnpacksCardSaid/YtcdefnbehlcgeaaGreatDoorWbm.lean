/- The document's reader: its block; what notes that something is wrong; a count.. The document's reader: numbers, how many, names, parts; also where something could not be . The program's reader of an instruction: what may stand behind an operation.. -/
import Derived.Test.YtcdefnbehlcgeaaGreatDoorWb
import Derived.Test.YtcdefnbehlcgeaaGreatDoorWf
import Derived.Test.YtcdefnbehlcgeaaGreatDoorWq
set_option maxHeartbeats 4000000
set_option maxRecDepth 20000
set_option linter.unusedSimpArgs false
set_option linter.unusedVariables false
namespace Go.Proofs.YtcdefnbehlcgeaaGreatDoor
open Go.RowKit
abbrev Rdc (w : World) (b : Nat) (s : ByteArray) (p : Nat) (bad : Int) : Prop := Bk w b 40 #[.string s, .int .i64 p, .int .i64 bad]
theorem Rdc.three {w : World} {b : Nat} {s : ByteArray} {p : Nat} {bad : Int} (h : Rdc w b s p bad) : w.cell? ⟨b, 0, none⟩ = some (.string s) ∧ w.cell? ⟨b, 1, none⟩ = some (.int .i64 p) ∧ w.cell? ⟨b, 2, none⟩ = some (.int .i64 bad) := ⟨h.cell0 rfl, h.cell0 rfl, h.cell0 rfl⟩
theorem wrong_any (b : Nat) (s : ByteArray) (p f : Nat) (w : World) (hb : Rdc w b s p (-1)) :
 Calls Tryz.prog 27 #[.pointer (some ⟨b, 0, none⟩), .int .i64 f] w fun e w' => e = .returned (.tuple #[]) ∧ Rdc w' b s p (f : Int) ∧ Only [b] w w' := by
 obtain ⟨c0, c1, c2⟩ := hb.three
 have f2 := hb.free 2
 have H := Lib.hid (Bk.set hb 2 (.int .i64 f))
 have O := Lib.hid ((Only.refl [b] w).set (p := ⟨b, 2, none⟩) (.inl (by simp)) (.int .i64 f))
 go_enter Tryz.func27, Tryz.ntmps27
 go_wp2_with fail
 exact bodyPost_end (v := .tuple #[]) (by simp [results, Tryz.results27, go_sem]) rfl ⟨rfl, H.out, O.out⟩
def DeE {α : Type} (b : Nat) (s : ByteArray) (z : Value) (R : α → Value) (r : Rs α) (w : World) (e : Ending) (w' : World) : Prop :=
 match r with
 | .ok x q => e = .returned (R x) ∧ Rdc w' b s q (-1) ∧ Only [b] w w' ∧ q ≤ s.size
 | .bad q => e = .returned z ∧ (∃ p, Rdc w' b s p (q : Int)) ∧ Only [b] w w'
abbrev VI (n : Nat) : Value := .int .i64 n
abbrev VZ (n : Int) : Value := .int .i64 n
theorem dcount_bad (b : Nat) (s : ByteArray) (p t : Nat) (w : World) (hb : Rdc w b s p (t : Int)) :
 Calls Tryz.prog 30 #[.pointer (some ⟨b, 0, none⟩)] w fun e w' => e = .returned (.int .i64 0) ∧ w = w' := by
 obtain ⟨c0, c1, c2⟩ := hb.three
 have ht : ¬ (t : Int) < 0 := by omega
 go_enter Tryz.func30, Tryz.ntmps30
 go_wp2_with fail
 refine wp_loop_rounds 1 ?_
 rw [rounds_succ]
 go_wp2_with fail
 go_ret
 exact ⟨rfl, rfl⟩
theorem rem128 (c : Nat) : (c : Int).tmod 128 = ((c % 128 : Nat) : Int) := by
 rw [Int.tmod_eq_emod_of_nonneg (by omega)]
 omega
def cntR (r : Option (Nat × Nat)) (p : Nat) : Rs Nat :=
 match r with
 | some (n, q) => .ok n q
 | none => .bad p
theorem dcnt_val {c k n : Nat} (hk : k < 9) (hn : n < 2 ^ (7 * k)) : c % 128 * 2 ^ (7 * k) ≤ 9223372036854775807 ∧ n + c % 128 * 2 ^ (7 * k) ≤ 9223372036854775807 := by
 have h9 : (2 : Nat) ^ (7 * (k + 1)) ≤ 2 ^ 63 := Nat.pow_le_pow_right (by omega) (by omega)
 have h7 : (2 : Nat) ^ (7 * (k + 1)) = 128 * 2 ^ (7 * k) := by rw [Nat.mul_succ, Nat.pow_add]; omega
 have hm : c % 128 * 2 ^ (7 * k) ≤ 127 * 2 ^ (7 * k) := Nat.mul_le_mul_right _ (by omega)
 have h63 : (2 : Nat) ^ 63 = 9223372036854775808 := by decide
 omega
theorem val_eq {c k n : Nat} (h : c * 2 ^ (7 * k) ≤ 9223372036854775807 ∧ n + c * 2 ^ (7 * k) ≤ 9223372036854775807) : wrap64 ((n : Int) + wrap64 ((c : Int) * 2 ^ (7 * k))) = ((n + c * 2 ^ (7 * k) : Nat) : Int) := by
 have e : (c : Int) * 2 ^ (7 * k) = ((c * 2 ^ (7 * k) : Nat) : Int) := by push_cast; rfl
 rw [e]
 generalize c * 2 ^ (7 * k) = m at h
 rw [wrap64_in (x := (m : Int)) (by omega) (by omega), wrap64_in (by omega) (by omega)]
 omega
theorem dcount_any (b : Nat) (s : ByteArray) (p : Nat) (w : World) (hb : Rdc w b s p (-1)) (hp : p ≤ s.size) (hs : s.size ≤ 262144) :
 Calls Tryz.prog 30 #[.pointer (some ⟨b, 0, none⟩)] w fun e w' => DeE b s (.int .i64 0) VI (rCnt s p) w e w' := by
 obtain ⟨c0, c1, c2⟩ := hb.three
 have HW := Lib.hid (fun q w1 (h : Rdc w1 b s q (-1)) => wrong_any b s q p w1 h)
 obtain ⟨r, hr⟩ : ∃ r, cnt s p = r := ⟨_, rfl⟩
 have HP : rCnt s p = cntR r p := by unfold rCnt; rw [hr]; rfl
 rw [HP]
 clear HP
 have HBD := Lib.hid (fun n q (h : r = some (n, q)) => (cnt_bd (hr.trans h)).2.2)
 go_enter Tryz.func30, Tryz.ntmps30
 go_wp2_with fail
 go_loopw [4, 5, 6] (fun nv bv _ wr => ∃ k n q : Nat, nv = .int .i64 n ∧ bv = .int .i64 ((7 * k : Nat) : Int) ∧ k ≤ 9 ∧ q ≤ s.size ∧ n < 2 ^ (7 * k) ∧ cntGo s (9 - k) k q n = r ∧ Rdc wr b s q (-1) ∧ Only [b] w wr) (fun nv bv _ _ => 9 - (intOf bv).toNat / 7)
 case atStart => exact ⟨0, 0, p, rfl, rfl, by omega, hp, by simp, hr, hb, Only.refl _ _⟩
 case round =>
  obtain ⟨k, n, q, rfl, rfl, hk, hq, hn, hkr, hb1, ho⟩ := hrel
  obtain ⟨c0, c1, c2⟩ := Rdc.three hb1
  have f1 := Bk.free hb1 1
  have HO := Lib.hid ho
  have HB := Lib.hid hb1
  have HV := Lib.hid (fun (c : Nat) (h1 : k < 9) => dcnt_val (c := c) h1 hn)
  have HR := Lib.hid hkr
  have HN := Lib.hid hn
  clear ho hb1 hr hkr hn hb
  by_cases h2 : q < s.size
  ·have g0 : ¬ (s.size : Int) ≤ (q : Int) := by omega
   have HS : Hid (∀ m : Nat, Rdc ((wr.drewN m).setCell ⟨b, 1, none⟩ (.int .i64 ((q : Int) + 1))) b s (q + 1) (-1)) := Lib.hid (fun m => by
    have := Bk.set (Bk.drewN HB.out m) 1 (.int .i64 ((q : Int) + 1))
    rw [show (q : Int) + 1 = ((q + 1 : Nat) : Int) by omega] at this ⊢
    exact this)
   have HSO := Lib.hid (fun m : Nat => (HO.out.drewN m).set (p := ⟨b, 1, none⟩) (.inl (by simp)) (.int .i64 ((q : Int) + 1)))
   have hrm := rem128 (s[q]'h2).toNat
   have hwb : wrap64 ((s[q]'h2).toNat : Int) = ((s[q]'h2).toNat : Int) := wrap64_in (by omega) (by have := UInt8.toNat_lt (s[q]'h2); omega)
   by_cases hk9 : k < 9
   ·have g1 : ¬ (56 : Int) < ((7 * k : Nat) : Int) := by omega
    have g1' : ¬ (56 : Int) < 7 * (k : Int) := by omega
    have hv := HV.out (s[q]'h2).toNat hk9
    by_cases h128 : (s[q]'h2).toNat < 128
    ·have g2 : ((s[q]'h2).toNat : Int) < 128 := by omega
     have hla := cntGo_last (n := n) hk9 h2 h128
     by_cases h0 : (s[q]'h2).toNat = 0
     ·have g3 : ((s[q]'h2).toNat : Int) = 0 := by omega
      by_cases hk0 : 0 < k
      ·have g4 : (0 : Int) < 7 * (k : Int) := by omega
       have hre : r = none := by rw [← HR.out, hla, if_pos ⟨h0, hk0⟩]
       clear hla
       go_wp2_with fail
       go_quiet (fail)
       go_wp2_with fail
       go_quiet (fail)
       go_wp2_with fail
       (with_reducible refine (HW.out (q + 1) _ (HS.out _)).mono ?_)
       rintro e w1 ⟨rfl, h1, h2⟩
       have H1 := Lib.hid h1
       have H2 := Lib.hid ((HSO.out _).trans h2 (fun i hi => .inl hi))
       clear h1 h2
       go_wp2_with fail
       go_ret
       rw [hre]
       exact ⟨rfl, ⟨_, H1.out⟩, H2.out⟩
      ·have g4 : ¬ (0 : Int) < 7 * (k : Int) := by omega
       have hre : r = some (n, q + 1) := by rw [← HR.out, hla, if_neg (fun h => hk0 h.2), h0, Nat.zero_mul, Nat.add_zero]
       clear hla
       go_wp2_with fail
       go_quiet (fail)
       go_wp2_with fail
       go_quiet (fail)
       go_wp2_with fail
       go_ret
       rw [hre]
       exact ⟨by go_num, HS.out _, HSO.out _, by omega⟩
     ·have g3 : ¬ ((s[q]'h2).toNat : Int) = 0 := by omega
      have hre : r = some (n + (s[q]'h2).toNat * 2 ^ (7 * k), q + 1) := by rw [← HR.out, hla, if_neg (fun h => h0 h.1)]
      clear hla
      rw [Nat.mod_eq_of_lt h128] at hv hrm
      go_wp2_with fail
      go_quiet (fail)
      go_wp2_with fail
      go_quiet (fail)
      go_wp2_with fail
      go_ret
      rw [hre]
      exact ⟨ret_int (val_eq hv), HS.out _, HSO.out _, by omega⟩
    ·have g2 : ¬ ((s[q]'h2).toNat : Int) < 128 := by omega
     have g3 : ¬ ((s[q]'h2).toNat : Int) = 0 := by omega
     have g5 : 128 ≤ (s[q]'h2).toNat := by omega
     have hre := HR.out.symm.trans (cntGo_more (n := n) hk9 h2 h128)
     have HRE := Lib.hid hre.symm
     clear hre
     go_wp2_with fail
     go_quiet (fail)
     go_wp2_with fail
     go_quiet (fail)
     go_wp2_with fail
     go_roundw
     case rel =>
      have hp7 := pow7 k
      have hm : (s[q]'h2).toNat % 128 * 2 ^ (7 * k) ≤ 127 * 2 ^ (7 * k) := Nat.mul_le_mul_right _ (by omega)
      have hn := HN.out
      exact ⟨k + 1, n + (s[q]'h2).toNat % 128 * 2 ^ (7 * k), q + 1, by rw [show ((s[q]'h2).toNat : Int) % 128 = (((s[q]'h2).toNat % 128 : Nat) : Int) by omega, val_eq hv], by go_num, by omega, by omega, by omega, HRE.out, HS.out _, HSO.out _⟩
     case measure =>
      have : ((7 * (k : Int) + 7)).toNat = 7 * (k + 1) := by omega
      have h' : ((7 * k : Nat) : Int).toNat = 7 * k := by omega
      simp only [intOf, this, h']
      omega
   ·have g1 : (56 : Int) < ((7 * k : Nat) : Int) := by omega
    have g1' : (56 : Int) < 7 * (k : Int) := by omega
    have hre : r = none := by rw [← HR.out, show k = 9 by omega]; rfl
    go_wp2_with fail
    go_quiet (fail)
    go_wp2_with fail
    go_quiet (fail)
    go_wp2_with fail
    (with_reducible refine (HW.out (q + 1) _ (HS.out _)).mono ?_)
    rintro e w1 ⟨rfl, h1, h2⟩
    have H1 := Lib.hid h1
    have H2 := Lib.hid ((HSO.out _).trans h2 (fun i hi => .inl hi))
    clear h1 h2
    go_wp2_with fail
    go_ret
    rw [hre]
    exact ⟨rfl, ⟨_, H1.out⟩, H2.out⟩
  ·have g0 : (s.size : Int) ≤ (q : Int) := by omega
   have hre : r = none := by rw [← HR.out]; exact cntGo_end (by omega) hk
   go_wp2_with fail
   go_quiet (fail)
   go_wp2_with fail
   (with_reducible refine (HW.out q _ (Bk.drewN HB.out _)).mono ?_)
   rintro e w1 ⟨rfl, h1, h2⟩
   have H1 := Lib.hid h1
   have H2 := Lib.hid ((HO.out.drewN _).trans h2 (fun i hi => .inl hi))
   clear h1 h2
   go_wp2_with fail
   go_ret
   rw [hre]
   exact ⟨rfl, ⟨_, H1.out⟩, H2.out⟩
open Go.RowKit
theorem rCnt_bd {s : ByteArray} {p n q : Nat} (h : rCnt s p = .ok n q) : n < 9223372036854775808 ∧ p < q ∧ q ≤ s.size := by
 unfold rCnt at h
 split at h
 ·rename_i n' q' hc
  injection h with h1 h2
  subst h1 h2
  exact cnt_bd hc
 ·cases h
theorem rCnt_bad {s : ByteArray} {p q : Nat} (h : rCnt s p = .bad q) : q = p := by
 unfold rCnt at h
 split at h
 ·cases h
 ·injection h with h; exact h.symm
theorem rFit_of (f : Nat → Nat → Bool) (s : ByteArray) (p : Nat) : rFit f s p = (rCnt s p).bind fun n q => if f n q = true then .ok n q else .bad p := by
 unfold rFit rCnt
 cases cnt s p with
 | none => rfl
 | some x => rfl
theorem dnum_bad (b : Nat) (s : ByteArray) (p t : Nat) (w : World) (hb : Rdc w b s p (t : Int)) :
 Calls Tryz.prog 54 #[.pointer (some ⟨b, 0, none⟩)] w fun e w' => e = .returned (.int .i64 0) ∧ w = w' := by
 have HC := Lib.hid (dcount_bad b s p t w hb)
 go_enter Tryz.func54, Tryz.ntmps54
 go_wp2_with fail
 (with_reducible refine HC.out.mono ?_)
 rintro e w1 ⟨rfl, rfl⟩
 go_wp2_with fail
 go_ret
 exact ⟨rfl, rfl⟩
theorem dnum_any (b : Nat) (s : ByteArray) (p : Nat) (w : World) (hb : Rdc w b s p (-1)) (hp : p ≤ s.size) (hs : s.size ≤ 262144) :
 Calls Tryz.prog 54 #[.pointer (some ⟨b, 0, none⟩)] w fun e w' => DeE b s (.int .i64 0) VZ (rNum s p) w e w' := by
 have HC := dcount_any b s p w hb hp hs
 unfold rNum
 cases hr : rCnt s p with
 | bad t =>
  rw [hr] at HC
  have HC := Lib.hid HC
  show Calls Tryz.prog _ _ w fun e w' => DeE b s (.int .i64 0) VZ (.bad t) w e w'
  go_enter Tryz.func54, Tryz.ntmps54
  go_wp2_with fail
  (with_reducible refine HC.out.mono ?_)
  rintro e w1 ⟨rfl, h3, h4⟩
  have H3 := Lib.hid h3
  have H4 := Lib.hid h4
  clear h3 h4
  go_wp2_with fail
  go_ret
  exact ⟨rfl, H3.out, H4.out⟩
 | ok n q =>
  have hn := (rCnt_bd hr).1
  rw [hr] at HC
  have HC := Lib.hid HC
  show Calls Tryz.prog _ _ w fun e w' => DeE b s (.int .i64 0) VZ (.ok (sgnd n) q) w e w'
  clear hr
  by_cases h : n % 2 = 0
  ·have g : ((n : Int)).tmod 2 = 0 := by rw [Int.tmod_eq_emod_of_nonneg (by omega)]; omega
   have hv : sgnd n = ((n / 2 : Nat) : Int) := by unfold sgnd; rw [if_pos h]
   rw [hv]
   clear hv
   go_enter Tryz.func54, Tryz.ntmps54
   go_wp2_with fail
   (with_reducible refine HC.out.mono ?_)
   rintro e w1 ⟨rfl, h3, h4, h5⟩
   have H3 := Lib.hid h3
   have H4 := Lib.hid h4
   clear h3 h4
   go_wp2_with fail
   all_goals
    go_ret
    exact ⟨ret_int (by omega), H3.out, H4.out, h5⟩
  ·have g : ((n : Int)).tmod 2 = 1 := by rw [Int.tmod_eq_emod_of_nonneg (by omega)]; omega
   have hv : sgnd n = -((n / 2 : Nat) : Int) - 1 := by unfold sgnd; rw [if_neg h]
   rw [hv]
   clear hv
   go_enter Tryz.func54, Tryz.ntmps54
   go_wp2_with fail
   (with_reducible refine HC.out.mono ?_)
   rintro e w1 ⟨rfl, h3, h4, h5⟩
   have H3 := Lib.hid h3
   have H4 := Lib.hid h4
   clear h3 h4
   go_wp2_with fail
   all_goals
    go_ret
    exact ⟨ret_int (by omega), H3.out, H4.out, h5⟩
theorem dmany_bad (b : Nat) (s : ByteArray) (p t : Nat) (w : World) (hb : Rdc w b s p (t : Int)) :
 Calls Tryz.prog 29 #[.pointer (some ⟨b, 0, none⟩)] w fun e w' => e = .returned (.int .i64 0) ∧ Only [] w w' := by
 obtain ⟨c0, c1, c2⟩ := hb.three
 have ht : ¬ (t : Int) < 0 := by omega
 have ht' : (0 : Int) ≤ (t : Int) := by omega
 have htd : decide ((t : Int) < 0) = false := decide_eq_false ht
 have HB := Lib.hid hb
 have HC := Lib.hid (dcount_bad b s p t w hb)
 go_enter Tryz.func29, Tryz.ntmps29
 go_wp2_with fail
 (with_reducible refine HC.out.mono ?_)
 rintro e w1 ⟨rfl, rfl⟩
 have z0 : ∀ x : Cm w, x.1.cell? ⟨b, 0, none⟩ = some (.string s) := Cm.cell c0
 have z1 : ∀ x : Cm w, x.1.cell? ⟨b, 1, none⟩ = some (.int .i64 p) := Cm.cell c1
 have z2 : ∀ x : Cm w, x.1.cell? ⟨b, 2, none⟩ = some (.int .i64 t) := Cm.cell c2
 go_wp2_with fail
 clear c0 c1 c2
 refine wp_region_calm (by kernel_rfl) (by kernel_rfl) ?_
 repeat (go_big_quiet_step (fail))
 refine wpQuiet_nil ?_
 rintro w5 ⟨⟨w5', o5⟩, e5⟩
 obtain rfl : w5 = w5' := e5
 obtain ⟨c0, c1, c2⟩ := Rdc.three (Bk.only HB.out o5 (by simp))
 have O5 := Lib.hid o5
 clear z0 z1 z2 o5
 go_wp2_with fail
 go_ret
 exact ⟨rfl, O5.out⟩
theorem dmany_any (b : Nat) (s : ByteArray) (p : Nat) (w : World) (hb : Rdc w b s p (-1)) (hp : p ≤ s.size) (hs : s.size ≤ 262144) :
 Calls Tryz.prog 29 #[.pointer (some ⟨b, 0, none⟩)] w fun e w' => DeE b s (.int .i64 0) VI (rLen s p) w e w' := by
 obtain ⟨c0, c1, c2⟩ := hb.three
 have HC := dcount_any b s p w hb hp hs
 unfold rLen
 rw [rFit_of]
 cases hr : rCnt s p with
 | bad t =>
  rw [hr] at HC
  have HC := Lib.hid HC
  have ht : ¬ (t : Int) < 0 := by omega
  have ht' : (0 : Int) ≤ (t : Int) := by omega
  have htd : decide ((t : Int) < 0) = false := decide_eq_false ht
  show Calls Tryz.prog _ _ w fun e w' => DeE b s (.int .i64 0) VI (.bad t) w e w'
  go_enter Tryz.func29, Tryz.ntmps29
  go_wp2_with fail
  (with_reducible refine HC.out.mono ?_)
  rintro e w1 ⟨rfl, ⟨p1, h3⟩, h4⟩
  obtain ⟨c0, c1, c2⟩ := Rdc.three h3
  have H3 := Lib.hid h3
  have H4 := Lib.hid h4
  have z0 : ∀ x : Cm w1, x.1.cell? ⟨b, 0, none⟩ = some (.string s) := Cm.cell c0
  have z1 : ∀ x : Cm w1, x.1.cell? ⟨b, 1, none⟩ = some (.int .i64 p1) := Cm.cell c1
  have z2 : ∀ x : Cm w1, x.1.cell? ⟨b, 2, none⟩ = some (.int .i64 t) := Cm.cell c2
  clear h3 h4
  go_wp2_with fail
  clear c0 c1 c2
  refine wp_region_calm (by kernel_rfl) (by kernel_rfl) ?_
  repeat (go_big_quiet_step (fail))
  refine wpQuiet_nil ?_
  rintro w5 ⟨⟨w5', o5⟩, e5⟩
  obtain rfl : w5 = w5' := e5
  have h3 := Bk.only H3.out o5 (by simp)
  obtain ⟨c0, c1, c2⟩ := Rdc.three h3
  have K3 := Lib.hid h3
  have K4 := Lib.hid (H4.out.trans o5 (by simp))
  clear z0 z1 z2 o5 h3
  go_wp2_with fail
  go_ret
  exact ⟨rfl, ⟨p1, K3.out⟩, K4.out⟩
 | ok n q =>
  obtain ⟨hn, hpq, hq⟩ := rCnt_bd hr
  rw [hr] at HC
  have HC := Lib.hid HC
  show Calls Tryz.prog _ _ w fun e w' => DeE b s (.int .i64 0) VI (if decide (n ≤ s.size - q) = true then .ok n q else .bad p) w e w'
  clear hr
  by_cases h : n ≤ s.size - q
  ·have g : ¬ (s.size : Int) - (q : Int) < (n : Int) := by omega
   have g' : (n : Int) ≤ (s.size : Int) - (q : Int) := by omega
   rw [decide_eq_true h, if_pos rfl]
   go_enter Tryz.func29, Tryz.ntmps29
   go_wp2_with fail
   (with_reducible refine HC.out.mono ?_)
   rintro e w1 ⟨rfl, h3, h4, h5⟩
   obtain ⟨c0, c1, c2⟩ := Rdc.three h3
   have H3 := Lib.hid h3
   have H4 := Lib.hid h4
   have z0 : ∀ x : Cm w1, x.1.cell? ⟨b, 0, none⟩ = some (.string s) := Cm.cell c0
   have z1 : ∀ x : Cm w1, x.1.cell? ⟨b, 1, none⟩ = some (.int .i64 q) := Cm.cell c1
   have z2 : ∀ x : Cm w1, x.1.cell? ⟨b, 2, none⟩ = some (.int .i64 (-1)) := Cm.cell c2
   clear h3 h4
   go_wp2_with fail
   clear c0 c1 c2
   refine wp_region_calm (by kernel_rfl) (by kernel_rfl) ?_
   repeat (go_big_quiet_step (fail))
   refine wpQuiet_nil ?_
   rintro w5 ⟨⟨w5', o5⟩, e5⟩
   obtain rfl : w5 = w5' := e5
   have h3 := Bk.only H3.out o5 (by simp)
   obtain ⟨c0, c1, c2⟩ := Rdc.three h3
   have L3 := Lib.hid h3
   have L4 := Lib.hid (H4.out.trans o5 (by simp))
   clear z0 z1 z2 o5 h3
   go_wp2_with fail
   go_ret
   exact ⟨rfl, L3.out, L4.out, h5⟩
  ·have g : (s.size : Int) - (q : Int) < (n : Int) := by omega
   have hp0 : (0 : Int) ≤ (p : Int) := by omega
   have HW := Lib.hid (fun w1 (h : Rdc w1 b s q (-1)) => wrong_any b s q p w1 h)
   rw [decide_eq_false h, if_neg (by decide)]
   go_enter Tryz.func29, Tryz.ntmps29
   go_wp2_with fail
   (with_reducible refine HC.out.mono ?_)
   rintro e w1 ⟨rfl, h3, h4, h5⟩
   obtain ⟨c0, c1, c2⟩ := Rdc.three h3
   have H3 := Lib.hid h3
   have H4 := Lib.hid h4
   have z0 : ∀ x : Cm w1, x.1.cell? ⟨b, 0, none⟩ = some (.string s) := Cm.cell c0
   have z1 : ∀ x : Cm w1, x.1.cell? ⟨b, 1, none⟩ = some (.int .i64 q) := Cm.cell c1
   have z2 : ∀ x : Cm w1, x.1.cell? ⟨b, 2, none⟩ = some (.int .i64 (-1)) := Cm.cell c2
   clear h3 h4
   go_wp2_with fail
   clear c0 c1 c2
   refine wp_region_calm (by kernel_rfl) (by kernel_rfl) ?_
   repeat (go_big_quiet_step (fail))
   refine wpQuiet_nil ?_
   rintro w5 ⟨⟨w5', o5⟩, e5⟩
   obtain rfl : w5 = w5' := e5
   have h3 := Bk.only H3.out o5 (by simp)
   obtain ⟨c0, c1, c2⟩ := Rdc.three h3
   have L3 := Lib.hid h3
   have L4 := Lib.hid (H4.out.trans o5 (by simp))
   clear z0 z1 z2 o5 h3
   go_wp2_with fail
   (with_reducible refine (HW.out _ L3.out).mono ?_)
   rintro e w2 ⟨rfl, h3, h4⟩
   obtain ⟨c0, c1, c2⟩ := Rdc.three h3
   have K3 := Lib.hid h3
   have K4 := Lib.hid (L4.out.trans h4 (fun i hi => .inl hi))
   clear h3 h4
   go_wp2_with fail
   go_ret
   exact ⟨rfl, ⟨q, K3.out⟩, K4.out⟩
abbrev VS (x : ByteArray) : Value := .string x
theorem dname_any (b : Nat) (s : ByteArray) (p : Nat) (w : World) (hb : Rdc w b s p (-1)) (hp : p ≤ s.size) (hs : s.size ≤ 262144) :
 Calls Tryz.prog 28 #[.pointer (some ⟨b, 0, none⟩)] w fun e w' => DeE b s (.string ⟨#[]⟩) VS (rName s p) w e w' := by
 have HC := dmany_any b s p w hb hp hs
 unfold rName
 cases hr : rLen s p with
 | bad t =>
  rw [hr] at HC
  have HC := Lib.hid HC
  have ht : ¬ (t : Int) < 0 := by omega
  have ht' : (0 : Int) ≤ (t : Int) := by omega
  have htd : decide ((t : Int) < 0) = false := decide_eq_false ht
  show Calls Tryz.prog _ _ w fun e w' => DeE b s (.string ⟨#[]⟩) VS (.bad t) w e w'
  go_enter Tryz.func28, Tryz.ntmps28
  go_wp2_with fail
  (with_reducible refine HC.out.mono ?_)
  rintro e w1 ⟨rfl, ⟨p1, h3⟩, h4⟩
  obtain ⟨c0, c1, c2⟩ := Rdc.three h3
  have H3 := Lib.hid h3
  have H4 := Lib.hid h4
  clear h3 h4
  go_wp2_with fail
  go_ret
  exact ⟨rfl, ⟨p1, H3.out⟩, H4.out⟩
 | ok n q =>
  obtain ⟨hn, hq, hpq⟩ := rLen_bd hr
  rw [hr] at HC
  have HC := Lib.hid HC
  show Calls Tryz.prog _ _ w fun e w' => DeE b s (.string ⟨#[]⟩) VS (.ok (s.extract q (q + n)) (q + n)) w e w'
  clear hr
  have g1 : ((q : Int) + n) ≤ (s.size : Int) := by omega
  go_enter Tryz.func28, Tryz.ntmps28
  go_wp2_with fail
  (with_reducible refine HC.out.mono ?_)
  rintro e w1 ⟨rfl, h3, h4, h5⟩
  obtain ⟨c0, c1, c2⟩ := Rdc.three h3
  have f1 := Bk.free h3 1
  have H3 := Lib.hid h3
  have H4 := Lib.hid h4
  have HS : Hid (∀ m : Nat, Rdc ((w1.drewN m).setCell ⟨b, 1, none⟩ (.int .i64 ((q : Int) + n))) b s (q + n) (-1)) := Lib.hid (fun m => by
   have := Bk.set (Bk.drewN H3.out m) 1 (.int .i64 ((q : Int) + n))
   rw [show (q : Int) + n = ((q + n : Nat) : Int) by omega] at this ⊢
   exact this)
  have HSO := Lib.hid (fun m : Nat => (H4.out.drewN m).set (p := ⟨b, 1, none⟩) (.inl (by simp)) (.int .i64 ((q : Int) + n)))
  clear h3 h4
  go_wp2_with fail
  go_quiet (fail)
  go_wp2_with fail
  go_ret
  exact ⟨rfl, HS.out _, HSO.out _, by omega⟩
theorem dpart_bad (b : Nat) (s : ByteArray) (p t : Nat) (w : World) (hb : Rdc w b s p (t : Int)) :
 Calls Tryz.prog 88 #[.pointer (some ⟨b, 0, none⟩)] w fun e w' => e = .returned (.int .i64 0) ∧ w = w' := by
 obtain ⟨c0, c1, c2⟩ := hb.three
 have ht : ¬ (t : Int) < 0 := by omega
 have HC := Lib.hid (dnum_bad b s p t w hb)
 go_enter Tryz.func88, Tryz.ntmps88
 go_wp2_with fail
 (with_reducible refine HC.out.mono ?_)
 rintro e w1 ⟨rfl, rfl⟩
 go_wp2_with fail
 go_ret
 exact ⟨rfl, rfl⟩
theorem rPart_of (s : ByteArray) (p : Nat) : rPart s p = (rNum s p).bind fun z q => if -1073741824 ≤ z ∧ z ≤ 1073741824 then .ok z q else .bad p := by
 unfold rPart rNum
 rw [rFit_of]
 cases rCnt s p with
 | bad t => rfl
 | ok n q =>
  by_cases h : -1073741824 ≤ sgnd n ∧ sgnd n ≤ 1073741824
  ·simp only [Rs.bind, Rs.map, decide_eq_true_eq, if_pos h]
  ·simp only [Rs.bind, Rs.map, decide_eq_true_eq, if_neg h]
theorem dpart_any (b : Nat) (s : ByteArray) (p : Nat) (w : World) (hb : Rdc w b s p (-1)) (hp : p ≤ s.size) (hs : s.size ≤ 262144) :
 Calls Tryz.prog 88 #[.pointer (some ⟨b, 0, none⟩)] w fun e w' => DeE b s (.int .i64 0) VZ (rPart s p) w e w' := by
 obtain ⟨c0, c1, c2⟩ := hb.three
 have HC := dnum_any b s p w hb hp hs
 rw [rPart_of]
 generalize rNum s p = r at HC ⊢
 cases r with
 | bad t =>
  have HC := Lib.hid HC
  have ht : ¬ (t : Int) < 0 := by omega
  show Calls Tryz.prog _ _ w fun e w' => DeE b s (.int .i64 0) VZ (.bad t) w e w'
  go_enter Tryz.func88, Tryz.ntmps88
  go_wp2_with fail
  (with_reducible refine HC.out.mono ?_)
  rintro e w1 ⟨rfl, ⟨p1, h3⟩, h4⟩
  obtain ⟨c0, c1, c2⟩ := Rdc.three h3
  have H3 := Lib.hid h3
  have H4 := Lib.hid h4
  clear h3 h4
  go_wp2_with fail
  go_ret
  exact ⟨rfl, ⟨p1, H3.out⟩, H4.out⟩
 | ok z q =>
  have HC := Lib.hid HC
  show Calls Tryz.prog _ _ w fun e w' => DeE b s (.int .i64 0) VZ (if -1073741824 ≤ z ∧ z ≤ 1073741824 then .ok z q else .bad p) w e w'
  by_cases h : -1073741824 ≤ z ∧ z ≤ 1073741824
  ·rw [if_pos h]
   obtain ⟨g1, g2⟩ := h
   have g3 : ¬ z < -1073741824 := by omega
   have g4 : ¬ 1073741824 < z := by omega
   go_enter Tryz.func88, Tryz.ntmps88
   go_wp2_with fail
   (with_reducible refine HC.out.mono ?_)
   rintro e w1 ⟨rfl, h3, h4, h5⟩
   obtain ⟨c0, c1, c2⟩ := Rdc.three h3
   have H3 := Lib.hid h3
   have H4 := Lib.hid h4
   clear h3 h4
   go_wp2_with fail
   go_ret
   exact ⟨rfl, H3.out, H4.out, h5⟩
  ·rw [if_neg h]
   have HW := Lib.hid (fun w1 (h : Rdc w1 b s q (-1)) => wrong_any b s q p w1 h)
   rcases (by omega : z < -1073741824 ∨ (¬ z < -1073741824 ∧ 1073741824 < z)) with g | ⟨g, g'⟩
   all_goals
    go_enter Tryz.func88, Tryz.ntmps88
    go_wp2_with fail
    (with_reducible refine HC.out.mono ?_)
    rintro e w1 ⟨rfl, h3, h4, h5⟩
    obtain ⟨c0, c1, c2⟩ := Rdc.three h3
    have H3 := Lib.hid h3
    have H4 := Lib.hid h4
    clear h3 h4
    go_wp2_with fail
    (with_reducible refine (HW.out _ H3.out).mono ?_)
    rintro e w2 ⟨rfl, h3, h4⟩
    have K3 := Lib.hid h3
    have K4 := Lib.hid (H4.out.trans h4 (fun i hi => .inl hi))
    clear h3 h4
    go_wp2_with fail
    go_ret
    exact ⟨rfl, ⟨q, K3.out⟩, K4.out⟩
open Go.RowKit
def fnum : Fld → Int
 | .term => 0 | .a => 1 | .b => 2 | .ticks => 3 | .arms => 4
def FR (w : World) (base : Nat) (A : Option Addr) (fs : List Fld) : Prop := ∀ k f, fs[k]? = some f → ∃ g, A = some ⟨g, 0, none⟩ ∧ base ≤ g ∧ g < w.heap.size ∧ w.cell? ⟨g, k, none⟩ = some (.int .i64 (fnum f))
theorem FR.nil (w : World) (base : Nat) (A : Option Addr) : FR w base A [] := fun k f h => by simp at h
theorem FR.made (w : World) (fs : List Fld) : FR (w.alloc (.cells (fs.map fun f => Value.int .i64 (fnum f)).toArray 3)) w.heap.size (some ⟨w.heap.size, 0, none⟩) fs := fun k f h =>
 ⟨w.heap.size, rfl, Nat.le_refl _, by rw [size_al]; omega, (Bk.made w 3 _).cell0 (i := k) (by simp [h])⟩
def FldE (w : World) (op : Nat) (e : Ending) (w' : World) : Prop := ∃ A cap, e = .returned (.slice A (fldsOf op).length cap) ∧ FR w' w.heap.size A (fldsOf op) ∧ Only [] w w'
theorem fields_any (op : Nat) (w : World) : Calls Tryz.prog 79 #[.int .i64 op] w fun e w' => FldE w op e w' := by
 have h0 := FR.nil w w.heap.size none
 have O := Only.refl [] w
 have HN : Hid (fldsOf op = [] → FldE w op (.returned (.slice none 0 0)) w) := Lib.hid (fun h => ⟨none, 0, by rw [h]; rfl, by rw [h]; exact h0, O⟩)
 have HM : Hid (∀ fs, fldsOf op = fs → ∀ n : Nat, n = fs.length → FldE w op (.returned (.slice (some ⟨w.heap.size, 0, none⟩) n n)) (w.alloc (.cells (fs.map fun f => Value.int .i64 (fnum f)).toArray 3))) := Lib.hid (fun fs h n hn => ⟨_, n, by rw [h, ← hn], by rw [h]; exact FR.made w fs, O.alloc _⟩)
 clear h0 O
 by_cases hin : op = 1 ∨ op = 3 ∨ op = 4 ∨ op = 5 ∨ op = 17 ∨ op = 18 ∨ op = 19 ∨ op = 25 ∨ op = 26 ∨ op = 28 ∨ op = 34 ∨ op = 27 ∨ op = 33
 ·rcases hin with rfl | rfl | rfl | rfl | rfl | rfl | rfl | rfl | rfl | rfl | rfl | rfl | rfl
  ·go_enter Tryz.func79, Tryz.ntmps79
   go_wp2_with fail
   go_ret
   exact HM.out [.term] rfl 1 rfl
  case inr.inr.inr.inr.inr.inr.inr.inr.inr.inr.inl =>
   go_enter Tryz.func79, Tryz.ntmps79
   go_wp2_with fail
   go_ret
   exact HM.out [.a, .b] rfl 2 rfl
  case inr.inr.inr.inr.inr.inr.inr.inr.inr.inr.inr.inl =>
   go_enter Tryz.func79, Tryz.ntmps79
   go_wp2_with fail
   go_ret
   exact HM.out [.a, .arms] rfl 2 rfl
  case inr.inr.inr.inr.inr.inr.inr.inr.inr.inr.inr.inr =>
   go_enter Tryz.func79, Tryz.ntmps79
   go_wp2_with fail
   go_ret
   exact HM.out [.a, .ticks, .arms] rfl 3 rfl
  all_goals
   go_enter Tryz.func79, Tryz.ntmps79
   go_wp2_with fail
   go_ret
   exact HM.out [.a] rfl 1 rfl
 ·have hf : fldsOf op = [] := by
   unfold fldsOf
   repeat rw [if_neg (by omega)]
  have n1 : ¬ (op : Int) = 1 := by omega
  have n3 : ¬ (op : Int) = 3 := by omega
  have n4 : ¬ (op : Int) = 4 := by omega
  have n5 : ¬ (op : Int) = 5 := by omega
  have n17 : ¬ (op : Int) = 17 := by omega
  have n18 : ¬ (op : Int) = 18 := by omega
  have n19 : ¬ (op : Int) = 19 := by omega
  have n25 : ¬ (op : Int) = 25 := by omega
  have n26 : ¬ (op : Int) = 26 := by omega
  have n28 : ¬ (op : Int) = 28 := by omega
  have n34 : ¬ (op : Int) = 34 := by omega
  have n27 : ¬ (op : Int) = 27 := by omega
  have n33 : ¬ (op : Int) = 33 := by omega
  have HF := Lib.hid (HN.out hf)
  clear HN HM hf hin
  go_enter Tryz.func79, Tryz.ntmps79
  go_wp2_with fail
  go_ret
  exact HF.out
end Go.Proofs.YtcdefnbehlcgeaaGreatDoor
