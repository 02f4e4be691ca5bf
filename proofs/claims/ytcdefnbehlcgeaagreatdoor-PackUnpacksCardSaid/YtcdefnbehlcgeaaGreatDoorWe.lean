/- A term gone through in order: term.Check, and the document's.. Check of any term, by the program and by the document.. Arguments made of ints, truth values, texts, structs and arrays of such, and slices of suc. -/
import Derived.Test.YtcdefnbehlcgeaaGreatDoorWd
import Derived.Lib.MinMax
import Derived.ProofKit
import Derived.OpenShut
import Derived.Deep.Slices
import Derived.ChangeOld
set_option maxHeartbeats 8000000
namespace Go.Proofs.YtcdefnbehlcgeaaGreatDoor
open Go.RowKit
theorem cs_seven (t : T) (sl : Value) {w : World} {b o : Nat} (h : ∀ j u, (t.cs sl)[j]? = some u → w.cell? ⟨b, o + j, none⟩ = some u) :
 w.cell? ⟨b, o, none⟩ = some (.int .i64 t.k) ∧ w.cell? ⟨b, o + 1, none⟩ = some (.int .i64 t.n) ∧ w.cell? ⟨b, o + 2, none⟩ = some (.complex .f64 t.x t.y) ∧ w.cell? ⟨b, o + 3, none⟩ = some (.string t.S) ∧ w.cell? ⟨b, o + 4, none⟩ = some (.int .i64 t.a) ∧ w.cell? ⟨b, o + 5, none⟩ = some (.int .i64 t.b) ∧ w.cell? ⟨b, o + 6, none⟩ = some sl :=
 ⟨h 0 _ rfl, h 1 _ rfl, h 2 _ rfl, h 3 _ rfl, h 4 _ rfl, h 5 _ rfl, h 6 _ rfl⟩
theorem TV.slice {w : World} {F : Nat → Prop} {t : T} {sl : Value} (h : TV w F t sl) : ∃ A n c, sl = .slice A n c := by
 cases t with
 | tup k l =>
  simp only [TV] at h
  obtain ⟨A, cap, rfl, _⟩ := h
  exact ⟨_, _, _, rfl⟩
 | _ => exact ⟨_, _, _, (TV.leaf (by simp)).1 h⟩
def ThrOk (t : T) : Prop := ∀ (sl : Value) (F : Nat → Prop) (met deep : Nat) (d : Int) (b : Nat) (w : World), TV w F t sl → ¬ F b → Bk w b 121 #[.int .i64 met, .int .i64 d] → met ≤ 1024 → deep ≤ 64 →
 Calls Tryz.prog 65 #[.pointer (some ⟨b, 0, none⟩), .agg (tcs t.k t.n t.x t.y t.S t.a t.b sl), .int .i64 deep] w fun e w' => e = .returned (.int .i64 (thr t met deep).2) ∧ Only [b] w w' ∧ ∃ (m' : Nat) (d' : Int), Bk w' b 121 #[.int .i64 m', .int .i64 d'] ∧ ((thr t met deep).2 = 0 → m' = (thr t met deep).1)
theorem ThrOk.use {t : T} (h : ThrOk t) {sl : Value} {F : Nat → Prop} {met deep : Nat} {d D r : Int} {b : Nat} {w : World} (h1 : TV w F t sl) (h2 : ¬ F b) (h3 : Bk w b 121 #[.int .i64 met, .int .i64 d]) (h4 : met ≤ 1024) (h5 : deep ≤ 64) (hD : D = (deep : Int)) (hr : (thr t met deep).2 = r) :
 Calls Tryz.prog 65 #[.pointer (some ⟨b, 0, none⟩), .agg #[.int .i64 t.k, .int .i64 t.n, .complex .f64 t.x t.y, .string t.S, .int .i64 t.a, .int .i64 t.b, sl], .int .i64 D] w fun e w' => e = .returned (.int .i64 r) ∧ Only [b] w w' ∧ ∃ (m' : Nat) (d' : Int), Bk w' b 121 #[.int .i64 m', .int .i64 d'] ∧ (r = 0 → m' = (thr t met deep).1) := by
 subst hD hr
 exact h sl F met deep d b w h1 h2 h3 h4 h5
theorem through_full (t : T) (sl : Value) (met deep : Nat) (d : Int) (b : Nat) (w : World) (hb : Bk w b 121 #[.int .i64 met, .int .i64 d]) (hm : met ≤ 1024) (hd : deep ≤ 64) (hc : 1024 ≤ met ∨ 64 ≤ deep) :
 Calls Tryz.prog 65 #[.pointer (some ⟨b, 0, none⟩), .agg (tcs t.k t.n t.x t.y t.S t.a t.b sl), .int .i64 deep] w fun e w' => e = .returned (.int .i64 34) ∧ Only [b] w w' ∧ Bk w' b 121 #[.int .i64 met, .int .i64 d] := by
 have HB := Lib.hid hb
 have c0 : ∀ o, (w.alloc o).cell? ⟨b, 0, none⟩ = some (.int .i64 met) := fun o => (hb.alloc o).cell0 rfl
 clear hb
 by_cases h1 : met = 1024
 ·subst h1
  go_enter Tryz.func65, Tryz.ntmps65
  go_wp2_with fail
  go_ret
  exact ⟨rfl, (Only.refl _ _).alloc _, HB.out.alloc _⟩
 ·have h2 : deep = 64 := by omega
  have h1' : ((met : Int) == 1024) = false := by simp; omega
  clear hc h1
  subst h2
  go_enter Tryz.func65, Tryz.ntmps65
  go_wp2_with fail
  go_ret
  exact ⟨rfl, (Only.refl _ _).alloc _, HB.out.alloc _⟩
theorem through_no (t : T) (hg : t.Good) (sl : Value) (F : Nat → Prop) (met deep : Nat) (d : Int) (b : Nat) (w : World) (ht : TV w F t sl) (hb : Bk w b 121 #[.int .i64 met, .int .i64 d]) (hc : ¬ (1024 ≤ met ∨ 64 ≤ deep)) (hr : okT t = false) :
 Calls Tryz.prog 65 #[.pointer (some ⟨b, 0, none⟩), .agg (tcs t.k t.n t.x t.y t.S t.a t.b sl), .int .i64 deep] w fun e w' => e = .returned (.int .i64 30) ∧ Only [b] w w' ∧ Bk w' b 121 #[.int .i64 met, .int .i64 d] := by
 have HM := Lib.hid (fun w h => may_any t hg sl F w h)
 have HT := Lib.hid ht
 have HB := Lib.hid hb
 have HR := Lib.hid hr
 have c0 : ∀ o, (w.alloc o).cell? ⟨b, 0, none⟩ = some (.int .i64 met) := fun o => (hb.alloc o).cell0 rfl
 have h1 : ((met : Int) == 1024) = false := by simp; omega
 have h2 : ((deep : Int) == 64) = false := by simp; omega
 clear hb ht hr hc
 go_enter Tryz.func65, Tryz.ntmps65
 go_wp2_with fail
 (with_reducible refine (HM.out _ (HT.out.same ((Only.refl [] w).alloc _))).mono ?_)
 rw [HR.out]
 rintro e w1 ⟨rfl, o1⟩
 have O1 := Lib.hid (((Only.refl [] w).alloc (.cells (tcs t.k t.n t.x t.y t.S t.a t.b sl) 52)).trans o1 (by simp))
 clear o1 c0
 go_wp2_with fail
 go_ret
 exact ⟨rfl, O1.out.more (by simp), HB.out.only O1.out (by simp)⟩
theorem through_leaf (t : T) (hg : t.Good) (F : Nat → Prop) (met deep : Nat) (d : Int) (b : Nat) (w : World) (ht : TV w F t (.slice none 0 0)) (hb : Bk w b 121 #[.int .i64 met, .int .i64 d]) (hc : ¬ (1024 ≤ met ∨ 64 ≤ deep)) (hr : okT t = true) :
 Calls Tryz.prog 65 #[.pointer (some ⟨b, 0, none⟩), .agg (tcs t.k t.n t.x t.y t.S t.a t.b (.slice none 0 0)), .int .i64 deep] w fun e w' => e = .returned (.int .i64 0) ∧ Only [b] w w' ∧ ∃ d' : Int, Bk w' b 121 #[.int .i64 (met + 1 : Nat), .int .i64 d'] := by
 have HM := Lib.hid (fun w h => may_any t hg (.slice none 0 0) F w h)
 have HT := Lib.hid ht
 have HB := Lib.hid hb
 have HR := Lib.hid hr
 have c0 : ∀ o, (w.alloc o).cell? ⟨b, 0, none⟩ = some (.int .i64 met) := fun o => (hb.alloc o).cell0 rfl
 have h1 : ((met : Int) == 1024) = false := by simp; omega
 have h2 : ((deep : Int) == 64) = false := by simp; omega
 have hlt := hb.lt
 have hm : met < 1024 := by omega
 have hd : deep < 64 := by omega
 clear hb ht hr hc
 go_enter Tryz.func65, Tryz.ntmps65
 go_wp2_with fail
 (with_reducible refine (HM.out _ (HT.out.same ((Only.refl [] w).alloc _))).mono ?_)
 rw [HR.out]
 rintro e w1 ⟨rfl, o1⟩
 have O1 := Lib.hid (((Only.refl [] w).alloc (.cells (tcs t.k t.n t.x t.y t.S t.a t.b (.slice none 0 0)) 52)).trans o1 (by simp))
 have HB1 := Lib.hid (HB.out.only O1.out (by simp))
 have BT := Lib.hid ((Bk.made w 52 (tcs t.k t.n t.x t.y t.S t.a t.b (.slice none 0 0))).only o1 (by simp))
 have d0 := HB1.out.cell0 (i := 0) rfl
 have d1 := HB1.out.cell0 (i := 1) rfl
 have f0 := HB1.out.free 0
 have f1 := HB1.out.free 1
 have hsz : w.heap.size ≠ b := by omega
 have cl : ∀ u v, ((w1.setCell ⟨b, 0, none⟩ u).setCell ⟨b, 1, none⟩ v).cell? ⟨w.heap.size, 6, none⟩ = some (.slice none 0 0) := fun u v => ((BT.out.away (p := ⟨b, 0, none⟩) hsz u).away (p := ⟨b, 1, none⟩) hsz v).cell0 rfl
 have d1' : ∀ u, (w1.setCell ⟨b, 0, none⟩ u).cell? ⟨b, 1, none⟩ = some (.int .i64 d) := fun u => (HB1.out.set 0 u).cell0 (by rfl)
 have f1' : ∀ u, (w1.setCell ⟨b, 0, none⟩ u).frozen? ⟨b, 1, none⟩ = false := fun u => (HB1.out.set 0 u).free 1
 clear o1 c0
 go_wp2_with fail
 refine wp_loop_rounds 1 ?_
 rw [rounds_succ]
 go_wp2_with fail
 go_ret
 refine ⟨rfl, ?_, ?_⟩
 ·exact ((O1.out.more (T := [b]) (by simp)).set (by simp) _).set (by simp) _
 ·have := (HB1.out.set 0 (.int .i64 ((met + 1 : Nat) : Int))).set 1 (.int .i64 (max d (deep + 1)))
  exact ⟨_, this⟩
theorem through_tup (k : Int) (l : List T) (hg : (T.tup k l).Good) (ih : ∀ u ∈ l, ThrOk u) : ThrOk (.tup k l) := by
 intro sl F met deep d b w ht hF hb hm hd
 rw [thr_tup]
 by_cases hc : 1024 ≤ met ∨ 64 ≤ deep
 ·rw [if_pos hc]
  exact (through_full (.tup k l) sl met deep d b w hb hm hd hc).mono fun _ _ ⟨he, ho, hB⟩ => ⟨he, ho, met, d, hB, fun _ => rfl⟩
 ·rw [if_neg hc]
  have HM := Lib.hid (fun w h => may_any (.tup k l) hg sl F w h)
  have HT := Lib.hid ht
  have HB := Lib.hid hb
  have IH := Lib.hid ih
  simp only [TV] at ht
  obtain ⟨A, cap, rfl, hlc, hcap, hrows⟩ := ht
  have HR := Lib.hid hrows
  have c0 : ∀ o, (w.alloc o).cell? ⟨b, 0, none⟩ = some (.int .i64 met) := fun o => (hb.alloc o).cell0 rfl
  have h1 : ((met : Int) == 1024) = false := by simp; omega
  have h2 : ((deep : Int) == 64) = false := by simp; omega
  have hlt := hb.lt
  have hm1 : met < 1024 := by omega
  have hd1 : deep < 64 := by omega
  clear hb hc ih hg hrows hm hd
  go_enter Tryz.func65, Tryz.ntmps65
  go_wp2_with fail
  (with_reducible refine (HM.out _ (HT.out.same ((Only.refl [] w).alloc _))).mono ?_)
  rintro e w1 ⟨he, o1⟩
  rw [show okT (.tup k l) = true from rfl] at he
  subst he
  have O1 := Lib.hid (((Only.refl [] w).alloc (.cells (tcs k 0 0 0 ⟨#[]⟩ 0 0 (.slice A l.length cap)) 52)).trans o1 (by simp))
  have HB1 := Lib.hid (HB.out.only O1.out (by simp))
  have BT := Lib.hid ((Bk.made w 52 (tcs k 0 0 0 ⟨#[]⟩ 0 0 (.slice A l.length cap))).only o1 (by simp))
  have d0 := HB1.out.cell0 (i := 0) rfl
  have d1 := HB1.out.cell0 (i := 1) rfl
  have f0 := HB1.out.free 0
  have f1 := HB1.out.free 1
  have hsz : w.heap.size ≠ b := by omega
  have cl : ∀ u v, ((w1.setCell ⟨b, 0, none⟩ u).setCell ⟨b, 1, none⟩ v).cell? ⟨w.heap.size, 6, none⟩ = some (.slice A l.length cap) := fun u v => ((BT.out.away (p := ⟨b, 0, none⟩) hsz u).away (p := ⟨b, 1, none⟩) hsz v).cell0 rfl
  have d1' : ∀ u, (w1.setCell ⟨b, 0, none⟩ u).cell? ⟨b, 1, none⟩ = some (.int .i64 d) := fun u => (HB1.out.set 0 u).cell0 (by rfl)
  have f1' : ∀ u, (w1.setCell ⟨b, 0, none⟩ u).frozen? ⟨b, 1, none⟩ = false := fun u => (HB1.out.set 0 u).free 1
  clear o1 c0
  go_wp2_with fail
  go_loopw [42] (fun i wr => ∃ (j m : Nat) (d' : Int), i = .int .i64 j ∧ j ≤ l.length ∧ m ≤ 1024 ∧ thrs (l.drop j) m (deep + 1) = thrs l (met + 1) (deep + 1) ∧ Bk wr b 121 #[.int .i64 m, .int .i64 d'] ∧ Only [b] w wr) (fun i _ => l.length - (intOf i).toNat)
  case atStart =>
   refine ⟨0, met + 1, _, rfl, Nat.zero_le _, hm1, rfl, (HB1.out.set 0 (.int .i64 ((met + 1 : Nat) : Int))).set 1 (.int .i64 (max d (deep + 1))), ?_⟩
   exact ((O1.out.more (T := [b]) (by simp)).set (by simp) _).set (by simp) _
  case round =>
   obtain ⟨j, m, d', rfl, hj, hm2, hth, hbr, hor⟩ := hrel
   have HBr := Lib.hid hbr
   have HOr := Lib.hid hor
   have HTh := Lib.hid hth
   clear hbr hor hth
   by_cases hjl : j < l.length
   ·rcases HR.out with h0 | ⟨bl, off, rfl, hbl, hFb, hvs⟩
    ·rw [h0] at hjl; simp at hjl
    ·obtain ⟨sl', htv, hcs⟩ := (TVs.iff.1 hvs) j (l[j]'hjl) (List.getElem?_eq_getElem hjl)
     obtain ⟨A', n', c', rfl⟩ := htv.slice
     have rs := store_com
     have hne : bl ≠ b := fun e => hF (by rw [← e]; exact hFb)
     have hcs2 : ∀ q u, ((l[j]'hjl).cs (.slice A' n' c'))[q]? = some u → wr.cell? ⟨bl, off + j * 7 + q, none⟩ = some u := fun q u hu => (HOr.out.cell (p := ⟨bl, off + j * 7 + q, none⟩) hbl (by simpa using hne)).trans (by rw [Nat.mul_comm j 7]; exact hcs q u hu)
     obtain ⟨r0, r1, r2, r3, r4, r5, r6⟩ := cs_seven _ _ hcs2
     have HTV := Lib.hid (TV.only HOr.out (by simpa using hF) (fun _ h => h) _ _ htv)
     have HI := Lib.hid (IH.out _ (List.getElem_mem hjl))
     clear hcs hcs2 htv hvs
     have HD := Lib.hid (show l.drop j = l[j]'hjl :: l.drop (j + 1) from List.drop_eq_getElem_cons hjl)
     generalize l[j]'hjl = u at HD HI HTV r0 r1 r2 r3 r4 r5 r6
     have hth2 := HTh.out
     rw [HD.out, thrs_cons] at hth2
     have HTh2 := Lib.hid hth2
     have H3 := Lib.hid (thr_met u m (deep + 1))
     clear hth2
     obtain ⟨r, hr⟩ : ∃ r, (thr u m (deep + 1)).2 = r := ⟨_, rfl⟩
     have HRr := Lib.hid hr
     clear hr
     go_wp2_with fail
     (with_reducible refine (HI.out.use (deep := deep + 1) (D := (deep : Int) + 1) (HTV.out.same ((Only.refl [] wr).alloc _)) hF (HBr.out.alloc _) hm2 (by omega) (by omega) HRr.out).mono ?_)
     rintro e w2 ⟨rfl, o2, m', d2, hb2, hm2'⟩
     have HB2 := Lib.hid hb2
     have HM2 := Lib.hid hm2'
     have HO2 := Lib.hid ((HOr.out.alloc (.cells (u.cs (.slice A' n' c')) 52)).trans o2 (by simp))
     have h2cl := Lib.hid o2
     clear o2 hb2 hm2'
     by_cases hz : r = 0
     ·subst hz
      have hmm := HM2.out rfl
      have H3' := H3.out HRr.out
      have H4 := Lib.hid (show thrs (l.drop (j + 1)) m' (deep + 1) = thrs l (met + 1) (deep + 1) by rw [← HTh2.out, if_pos HRr.out, hmm])
      have hm3 : m' ≤ 1024 := by omega
      clear hmm H3'
      go_wp2_with fail
      go_roundw
      case rel => exact ⟨j + 1, m', d2, by go_num, by omega, hm3, H4.out, HB2.out, HO2.out⟩
      case measure => simp [intOf]; omega
     ·have hne : (r != 0) = true := by simpa using hz
      have H4 := Lib.hid (show (thrs l (met + 1) (deep + 1)).2 = r by rw [← HTh2.out, if_neg (by rw [HRr.out]; exact hz), HRr.out])
      have HZ := Lib.hid hz
      clear hz
      go_wp2_with fail
      go_ret
      exact ⟨ret_int H4.out.symm, HO2.out, m', d2, HB2.out, fun e => absurd (H4.out.symm.trans e) HZ.out⟩
   ·have hje : j = l.length := by omega
    subst hje
    have H4 := Lib.hid (show thrs l (met + 1) (deep + 1) = (m, 0) by rw [← HTh.out, List.drop_length, thrs_nil])
    clear hj
    go_wp2_with fail
    go_ret
    exact ⟨ret_int (by rw [H4.out]), HOr.out, m, d', HBr.out, fun _ => by rw [H4.out]⟩
theorem through_any (t : T) (hg : t.Good) : ThrOk t := by
 revert hg
 refine T.ind (P := fun t => t.Good → ThrOk t) (fun t ht hg => ?_) (fun k l ih hg => ?_) t
 ·intro sl F met deep d b w htv hF hb hm hd
  rw [thr_leaf ht hg]
  by_cases hc : 1024 ≤ met ∨ 64 ≤ deep
  ·rw [if_pos hc]
   exact (through_full t sl met deep d b w hb hm hd hc).mono fun _ _ ⟨he, ho, hB⟩ => ⟨he, ho, met, d, hB, fun _ => rfl⟩
  ·rw [if_neg hc]
   obtain rfl := (TV.leaf ht).1 htv
   by_cases hr : okT t = true
   ·rw [if_pos hr]
    exact (through_leaf t hg F met deep d b w htv hb hc hr).mono fun _ _ ⟨he, ho, d', hB⟩ => ⟨he, ho, met + 1, d', hB, fun _ => rfl⟩
   ·rw [if_neg hr]
    exact (through_no t hg _ F met deep d b w htv hb hc (by simpa using hr)).mono fun _ _ ⟨he, ho, hB⟩ => ⟨he, ho, met, d, hB, fun _ => rfl⟩
 ·exact through_tup k l hg (fun u hu => ih u hu (Goods.iff.1 hg.2 u hu))
open Go.RowKit
theorem ThrOk.use0 {t : T} (h : ThrOk t) {sl : Value} {F : Nat → Prop} {r : Int} {b : Nat} {w : World} (h1 : TV w F t sl) (h2 : ¬ F b) (h3 : Bk w b 121 #[.int .i64 0, .int .i64 0]) (hr : (thr t 0 0).2 = r) :
 Calls Tryz.prog 65 #[.pointer (some ⟨b, 0, none⟩), .agg #[.int .i64 t.k, .int .i64 t.n, .complex .f64 t.x t.y, .string t.S, .int .i64 t.a, .int .i64 t.b, sl], .int .i64 0] w fun e w' => e = .returned (.int .i64 r) ∧ Only [b] w w' :=
 (h.use (met := 0) (deep := 0) (d := 0) (D := 0) h1 h2 h3 (by omega) (by omega) rfl hr).mono fun _ _ ⟨he, ho, _⟩ => ⟨he, ho⟩
theorem check_any (t : T) (hg : t.Good) (sl : Value) (F : Nat → Prop) (w : World) (h : TV w F t sl) (hF : ∀ b, F b → b < w.heap.size) :
 Calls Tryz.prog 39 #[.agg (tcs t.k t.n t.x t.y t.S t.a t.b sl)] w fun e w' => e = .returned (.int .i64 (chk t)) ∧ Only [] w w' := by
 have HT := Lib.hid (through_any t hg)
 have HV := Lib.hid h
 obtain ⟨r, hr⟩ : ∃ r, chk t = r := ⟨_, rfl⟩
 have HR := Lib.hid (show (thr t 0 0).2 = r from hr)
 rw [hr]
 clear h hr
 go_enter Tryz.func39, Tryz.ntmps39
 go_wp2_with fail
 (with_reducible refine (HT.out.use0 (b := w.heap.size + 1) (HV.out.same (((Only.refl [] w).alloc _).alloc _)) (fun hf => ?_) (Bk.madeAt (by simp)) HR.out).mono ?_)
 ·have := hF _ hf
  omega
 rintro e w1 ⟨rfl, o1⟩
 have O1 := Lib.hid ((((Only.refl [] w).alloc (.cells (tcs t.k t.n t.x t.y t.S t.a t.b sl) 52)).alloc (.cells #[.int .i64 0, .int .i64 0] 121)).trans o1 (by simp))
 clear o1
 go_wp2_with fail
 go_ret
 exact ⟨rfl, O1.out⟩
def WalkOk (t : T) : Prop := ∀ (sl : Value) (F : Nat → Prop) (met deep : Nat) (w : World), TV w F t sl → met ≤ 1024 → deep ≤ 64 →
 Calls Tryz.prog 89 #[.agg (tcs t.k t.n t.x t.y t.S t.a t.b sl), .int .i64 met, .int .i64 deep] w fun e w' => e = .returned (.tuple #[.int .i64 (thr t met deep).1, .int .i64 (thr t met deep).2]) ∧ Only [] w w'
theorem WalkOk.use {t : T} (h : WalkOk t) {sl : Value} {F : Nat → Prop} {met deep m' : Nat} {D r : Int} {w : World} (h1 : TV w F t sl) (h4 : met ≤ 1024) (h5 : deep ≤ 64) (hD : D = (deep : Int)) (hm : (thr t met deep).1 = m') (hr : (thr t met deep).2 = r) :
 Calls Tryz.prog 89 #[.agg #[.int .i64 t.k, .int .i64 t.n, .complex .f64 t.x t.y, .string t.S, .int .i64 t.a, .int .i64 t.b, sl], .int .i64 met, .int .i64 D] w fun e w' => e = .returned (.tuple #[.int .i64 m', .int .i64 r]) ∧ Only [] w w' := by
 subst hD hr hm
 exact h sl F met deep w h1 h4 h5
theorem ret2 {a b c d : Int} (h : a = c) (h' : b = d) : Ending.returned (.tuple #[.int .i64 a, .int .i64 b]) = .returned (.tuple #[.int .i64 c, .int .i64 d]) := by rw [h, h']
theorem walk_full (t : T) (sl : Value) (met deep : Nat) (w : World) (hm : met ≤ 1024) (hd : deep ≤ 64) (hc : 1024 ≤ met ∨ 64 ≤ deep) :
 Calls Tryz.prog 89 #[.agg (tcs t.k t.n t.x t.y t.S t.a t.b sl), .int .i64 met, .int .i64 deep] w fun e w' => e = .returned (.tuple #[.int .i64 met, .int .i64 34]) ∧ Only [] w w' := by
 by_cases h1 : 1024 ≤ met
 ·have h1' : (1024 : Int) ≤ (met : Int) := by omega
  clear hc
  go_enter Tryz.func89, Tryz.ntmps89
  go_wp2_with fail
  go_ret2
  exact ⟨rfl, (Only.refl _ _).alloc _⟩
 ·have h2 : (64 : Int) ≤ (deep : Int) := by omega
  have h1' : decide ((1024 : Int) ≤ (met : Int)) = false := decide_eq_false (by omega)
  clear hc h1
  go_enter Tryz.func89, Tryz.ntmps89
  go_wp2_with fail
  go_ret2
  exact ⟨rfl, (Only.refl _ _).alloc _⟩
theorem walk_no (t : T) (hg : t.Good) (sl : Value) (F : Nat → Prop) (met deep : Nat) (w : World) (ht : TV w F t sl) (hc : ¬ (1024 ≤ met ∨ 64 ≤ deep)) (hr : okT t = false) :
 Calls Tryz.prog 89 #[.agg (tcs t.k t.n t.x t.y t.S t.a t.b sl), .int .i64 met, .int .i64 deep] w fun e w' => e = .returned (.tuple #[.int .i64 met, .int .i64 30]) ∧ Only [] w w' := by
 have HM := Lib.hid (fun w h => one_any t hg sl F w h)
 have HT := Lib.hid ht
 have HR := Lib.hid hr
 have h1 : decide ((1024 : Int) ≤ (met : Int)) = false := decide_eq_false (by omega)
 have h2 : decide ((64 : Int) ≤ (deep : Int)) = false := decide_eq_false (by omega)
 clear ht hr hc
 go_enter Tryz.func89, Tryz.ntmps89
 go_wp2_with fail
 (with_reducible refine (HM.out _ (HT.out.same ((Only.refl [] w).alloc _))).mono ?_)
 rw [HR.out]
 rintro e w1 ⟨rfl, o1⟩
 have O1 := Lib.hid (((Only.refl [] w).alloc (.cells (tcs t.k t.n t.x t.y t.S t.a t.b sl) 52)).trans o1 (by simp))
 clear o1
 go_wp2_with fail
 go_ret2
 exact ⟨rfl, O1.out⟩
theorem walk_leaf (t : T) (hg : t.Good) (F : Nat → Prop) (met deep : Nat) (w : World) (ht : TV w F t (.slice none 0 0)) (hc : ¬ (1024 ≤ met ∨ 64 ≤ deep)) (hr : okT t = true) :
 Calls Tryz.prog 89 #[.agg (tcs t.k t.n t.x t.y t.S t.a t.b (.slice none 0 0)), .int .i64 met, .int .i64 deep] w fun e w' => e = .returned (.tuple #[.int .i64 (met + 1 : Nat), .int .i64 0]) ∧ Only [] w w' := by
 have HM := Lib.hid (fun w h => one_any t hg (.slice none 0 0) F w h)
 have HT := Lib.hid ht
 have HR := Lib.hid hr
 have h1 : decide ((1024 : Int) ≤ (met : Int)) = false := decide_eq_false (by omega)
 have h2 : decide ((64 : Int) ≤ (deep : Int)) = false := decide_eq_false (by omega)
 have hm : met < 1024 := by omega
 clear ht hr hc
 go_enter Tryz.func89, Tryz.ntmps89
 go_wp2_with fail
 (with_reducible refine (HM.out _ (HT.out.same ((Only.refl [] w).alloc _))).mono ?_)
 rw [HR.out]
 rintro e w1 ⟨rfl, o1⟩
 have O1 := Lib.hid (((Only.refl [] w).alloc (.cells (tcs t.k t.n t.x t.y t.S t.a t.b (.slice none 0 0)) 52)).trans o1 (by simp))
 have BT := Lib.hid ((Bk.made w 52 (tcs t.k t.n t.x t.y t.S t.a t.b (.slice none 0 0))).only o1 (by simp))
 have c6 : w1.cell? ⟨w.heap.size, 6, none⟩ = some (.slice none 0 0) := BT.out.cell0 (by rfl)
 clear o1
 go_wp2_with fail
 refine wp_loop_rounds 1 ?_
 rw [rounds_succ]
 go_wp2_with fail
 go_ret2
 exact ⟨ret2 (by omega) rfl, O1.out⟩
theorem walk_tup (k : Int) (l : List T) (hg : (T.tup k l).Good) (ih : ∀ u ∈ l, WalkOk u) : WalkOk (.tup k l) := by
 intro sl F met deep w ht hm hd
 rw [thr_tup]
 by_cases hc : 1024 ≤ met ∨ 64 ≤ deep
 ·rw [if_pos hc]
  exact walk_full (.tup k l) sl met deep w hm hd hc
 ·rw [if_neg hc]
  have HM := Lib.hid (fun w h => one_any (.tup k l) hg sl F w h)
  have HT := Lib.hid ht
  have IH := Lib.hid ih
  simp only [TV] at ht
  obtain ⟨A, cap, rfl, hlc, hcap, hrows⟩ := ht
  have HR := Lib.hid hrows
  have h1 : decide ((1024 : Int) ≤ (met : Int)) = false := decide_eq_false (by omega)
  have h2 : decide ((64 : Int) ≤ (deep : Int)) = false := decide_eq_false (by omega)
  have hm1 : met < 1024 := by omega
  have hd1 : deep < 64 := by omega
  clear hc ih hg hrows hm hd
  go_enter Tryz.func89, Tryz.ntmps89
  go_wp2_with fail
  (with_reducible refine (HM.out _ (HT.out.same ((Only.refl [] w).alloc _))).mono ?_)
  rintro e w1 ⟨he, o1⟩
  rw [show okT (.tup k l) = true from rfl] at he
  subst he
  have O1 := Lib.hid (((Only.refl [] w).alloc (.cells (tcs k 0 0 0 ⟨#[]⟩ 0 0 (.slice A l.length cap)) 52)).trans o1 (by simp))
  have BT := Lib.hid ((Bk.made w 52 (tcs k 0 0 0 ⟨#[]⟩ 0 0 (.slice A l.length cap))).only o1 (by simp))
  clear o1
  go_wp2_with fail
  go_loopw [1, 8] (fun mv i wr => ∃ (j m : Nat), mv = .int .i64 m ∧ i = .int .i64 j ∧ j ≤ l.length ∧ m ≤ 1024 ∧ thrs (l.drop j) m (deep + 1) = thrs l (met + 1) (deep + 1) ∧ Bk wr w.heap.size 52 (tcs k 0 0 0 ⟨#[]⟩ 0 0 (.slice A l.length cap)) ∧ Only [] w wr) (fun _ i _ => l.length - (intOf i).toNat)
  case atStart =>
   exact ⟨0, met + 1, by go_num, rfl, Nat.zero_le _, hm1, rfl, BT.out, O1.out⟩
  case round =>
   obtain ⟨j, m, rfl, rfl, hj, hm2, hth, hbt, hor⟩ := hrel
   have HBt := Lib.hid hbt
   have HOr := Lib.hid hor
   have HTh := Lib.hid hth
   have c6 : wr.cell? ⟨w.heap.size, 6, none⟩ = some (.slice A l.length cap) := hbt.cell0 (by rfl)
   clear hbt hor hth
   by_cases hjl : j < l.length
   ·rcases HR.out with h0 | ⟨bl, off, rfl, hbl, hFb, hvs⟩
    ·rw [h0] at hjl; simp at hjl
    ·obtain ⟨sl', htv, hcs⟩ := (TVs.iff.1 hvs) j (l[j]'hjl) (List.getElem?_eq_getElem hjl)
     obtain ⟨A', n', c', rfl⟩ := htv.slice
     have hcs2 : ∀ q u, ((l[j]'hjl).cs (.slice A' n' c'))[q]? = some u → wr.cell? ⟨bl, off + j * 7 + q, none⟩ = some u := fun q u hu => (HOr.out.cell (p := ⟨bl, off + j * 7 + q, none⟩) hbl (by simp)).trans (by rw [Nat.mul_comm j 7]; exact hcs q u hu)
     obtain ⟨r0, r1, r2, r3, r4, r5, r6⟩ := cs_seven _ _ hcs2
     have HTV := Lib.hid (TV.same HOr.out htv)
     have HI := Lib.hid (IH.out _ (List.getElem_mem hjl))
     clear hcs hcs2 htv hvs
     have HD := Lib.hid (show l.drop j = l[j]'hjl :: l.drop (j + 1) from List.drop_eq_getElem_cons hjl)
     generalize l[j]'hjl = u at HD HI HTV r0 r1 r2 r3 r4 r5 r6
     have hth2 := HTh.out
     rw [HD.out, thrs_cons] at hth2
     have HTh2 := Lib.hid hth2
     have H3 := Lib.hid (thr_met u m (deep + 1))
     clear hth2
     obtain ⟨r, hr⟩ : ∃ r, (thr u m (deep + 1)).2 = r := ⟨_, rfl⟩
     obtain ⟨m', hm'⟩ : ∃ m', (thr u m (deep + 1)).1 = m' := ⟨_, rfl⟩
     have HRr := Lib.hid hr
     have HRm := Lib.hid hm'
     clear hr hm'
     go_wp2_with fail
     (with_reducible refine (HI.out.use (deep := deep + 1) (D := (deep : Int) + 1) HTV.out hm2 (by omega) (by omega) HRm.out HRr.out).mono ?_)
     rintro e w2 ⟨rfl, o2⟩
     have HO2 := Lib.hid (HOr.out.trans o2 (by simp))
     have HB2 := Lib.hid (HBt.out.only o2 (by simp))
     clear o2
     by_cases hz : r = 0
     ·subst hz
      have H3' := H3.out HRr.out
      rw [HRm.out] at H3'
      have H4 := Lib.hid (show thrs (l.drop (j + 1)) m' (deep + 1) = thrs l (met + 1) (deep + 1) by rw [← HTh2.out, if_pos HRr.out, HRm.out])
      go_wp2_with fail
      go_roundw
      case rel => exact ⟨j + 1, m', rfl, by go_num, by omega, H3', H4.out, HB2.out, HO2.out⟩
      case measure => simp [intOf]; omega
     ·have hne : (r != 0) = true := by simpa using hz
      have H4 := Lib.hid (show thrs l (met + 1) (deep + 1) = thr u m (deep + 1) by rw [← HTh2.out, if_neg (by rw [HRr.out]; exact hz)])
      clear hz
      go_wp2_with fail
      go_ret2
      exact ⟨ret2 (by rw [H4.out, HRm.out]) (by rw [H4.out, HRr.out]), HO2.out⟩
   ·have hje : j = l.length := by omega
    subst hje
    have H4 := Lib.hid (show thrs l (met + 1) (deep + 1) = (m, 0) by rw [← HTh.out, List.drop_length, thrs_nil])
    clear hj
    go_wp2_with fail
    go_ret2
    exact ⟨ret2 (by rw [H4.out]) (by rw [H4.out]), HOr.out⟩
theorem walk_any (t : T) (hg : t.Good) : WalkOk t := by
 revert hg
 refine T.ind (P := fun t => t.Good → WalkOk t) (fun t ht hg => ?_) (fun k l ih hg => ?_) t
 ·intro sl F met deep w htv hm hd
  rw [thr_leaf ht hg]
  by_cases hc : 1024 ≤ met ∨ 64 ≤ deep
  ·rw [if_pos hc]
   exact walk_full t sl met deep w hm hd hc
  ·rw [if_neg hc]
   obtain rfl := (TV.leaf ht).1 htv
   by_cases hr : okT t = true
   ·rw [if_pos hr]
    exact walk_leaf t hg F met deep w htv hc hr
   ·rw [if_neg hr]
    exact walk_no t hg _ F met deep w htv hc (by simpa using hr)
 ·exact walk_tup k l hg (fun u hu => ih u hu (Goods.iff.1 hg.2 u hu))
theorem WalkOk.use0 {t : T} (h : WalkOk t) {sl : Value} {F : Nat → Prop} {m' : Nat} {r : Int} {w : World} (h1 : TV w F t sl) (hm : (thr t 0 0).1 = m') (hr : (thr t 0 0).2 = r) :
 Calls Tryz.prog 89 #[.agg #[.int .i64 t.k, .int .i64 t.n, .complex .f64 t.x t.y, .string t.S, .int .i64 t.a, .int .i64 t.b, sl], .int .i64 0, .int .i64 0] w fun e w' => e = .returned (.tuple #[.int .i64 m', .int .i64 r]) ∧ Only [] w w' :=
 h.use (met := 0) (deep := 0) (D := 0) h1 (by omega) (by omega) rfl hm hr
theorem rcheck_any (t : T) (hg : t.Good) (sl : Value) (F : Nat → Prop) (w : World) (h : TV w F t sl) :
 Calls Tryz.prog 59 #[.agg (tcs t.k t.n t.x t.y t.S t.a t.b sl)] w fun e w' => e = .returned (.int .i64 (chk t)) ∧ Only [] w w' := by
 have HT := Lib.hid (walk_any t hg)
 have HV := Lib.hid h
 obtain ⟨r, hr⟩ : ∃ r, chk t = r := ⟨_, rfl⟩
 obtain ⟨m, hm⟩ : ∃ m, (thr t 0 0).1 = m := ⟨_, rfl⟩
 have HR := Lib.hid (show (thr t 0 0).2 = r from hr)
 have HM := Lib.hid hm
 rw [hr]
 clear h hr hm
 go_enter Tryz.func59, Tryz.ntmps59
 go_wp2_with fail
 (with_reducible refine (HT.out.use0 (HV.out.same ((Only.refl [] w).alloc _)) HM.out HR.out).mono ?_)
 rintro e w1 ⟨rfl, o1⟩
 have O1 := Lib.hid (((Only.refl [] w).alloc (.cells (tcs t.k t.n t.x t.y t.S t.a t.b sl) 52)).trans o1 (by simp))
 clear o1
 go_wp2_with fail
 go_ret
 exact ⟨rfl, O1.out⟩
end Go.Proofs.YtcdefnbehlcgeaaGreatDoor

